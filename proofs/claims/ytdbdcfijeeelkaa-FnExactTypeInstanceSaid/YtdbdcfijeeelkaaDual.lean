/- Duals of formulas: impl's methods 'dual', the model's l1List and l1Dual. -/
import Derived.Test.YtdbdcfijeeelkaaListT
import Derived.Test.YtdbdcfijeeelkaaTextF
namespace Go.Proofs.Ytdbdcfijeeelkaa
open Go.RowKit

def dualFn : F → FuncId
  | .lt _ => 91
  | .an _ _ => 95
  | .or _ _ => 99
  | .no _ => 103
theorem dual_method (f : F) (w : World) : (method 231 (ft f) (fi f) "loop.example/classicalcontrol/impl.dual").run Try.prog w = .ok (dualFn f, fi f) w := by
  cases f <;> kernel_rfl
theorem dual_call (f : F) (x : Value) (w : World) : (callFunc (dualFn f) #[x]).run Try.prog w = .ok (.enter (dualFn f) #[x]) w := by
  cases f <;> kernel_rfl

def DU (f : F) (g : F) : Prop := ∀ w : World, Calls Try.prog (dualFn f) #[fi f] w fun e w' => e = .returned (.iface (ft g) (fi g)) ∧ Below w.heap.size w w'

theorem dual_an (a b a' b' : F) (ha : Hid (DU a a')) (hb : Hid (DU b b')) : DU (.an a b) (.or a' b') := by
  intro w
  show Calls Try.prog 95 #[.agg #[.iface (ft a) (fi a), .iface (ft b) (fi b)]] w fun e w' => e = .returned (.iface 85 (.agg #[.iface (ft a') (fi a'), .iface (ft b') (fi b')])) ∧ _
  have ma := fun w => dual_method a w
  have mb := fun w => dual_method b w
  have ca := fun x w => dual_call a x w
  have cb := fun x w => dual_call b x w
  have hS := two_kept w (.iface (ft a) (fi a)) (.iface (ft b) (fi b)) 83
  go_enter Try.func95, Try.ntmps95
  go_wp2_with fail
  go_region_held3 (fun w' => w'.cell? ⟨w.heap.size, 0, none⟩ = some (.iface (ft a) (fi a)) ∧ w'.cell? ⟨w.heap.size, 1, none⟩ = some (.iface (ft b) (fi b)))
    (first | exact keep0 hS.out | exact keep1 hS.out hb1 | exact keep1 hS.out hb2 | exact keep2 hS.out hb1 hb2 | exact keep2 hS.out hb2 hb1)
    (first | (refine Calls.mono (ha.out _) ?_; rintro e w1 ⟨rfl, hb1⟩) | (refine Calls.mono (hb.out _) ?_; rintro e w2 ⟨rfl, hb2⟩))
  all_goals
    go_wp2_with fail
    go_ret
    exact ⟨rfl, (by first | exact below_step (below_step ((Below.refl _ _).alloc (Nat.le_refl _) _).drew (by simp) hb1) (by simp) hb2 | exact below_step (below_step ((Below.refl _ _).alloc (Nat.le_refl _) _).drew (by simp) hb2) (by simp) hb1)⟩

theorem dual_or (a b a' b' : F) (ha : Hid (DU a a')) (hb : Hid (DU b b')) : DU (.or a b) (.an a' b') := by
  intro w
  show Calls Try.prog 99 #[.agg #[.iface (ft a) (fi a), .iface (ft b) (fi b)]] w fun e w' => e = .returned (.iface 83 (.agg #[.iface (ft a') (fi a'), .iface (ft b') (fi b')])) ∧ _
  have ma := fun w => dual_method a w
  have mb := fun w => dual_method b w
  have ca := fun x w => dual_call a x w
  have cb := fun x w => dual_call b x w
  have hS := two_kept w (.iface (ft a) (fi a)) (.iface (ft b) (fi b)) 85
  go_enter Try.func99, Try.ntmps99
  go_wp2_with fail
  go_region_held3 (fun w' => w'.cell? ⟨w.heap.size, 0, none⟩ = some (.iface (ft a) (fi a)) ∧ w'.cell? ⟨w.heap.size, 1, none⟩ = some (.iface (ft b) (fi b)))
    (first | exact keep0 hS.out | exact keep1 hS.out hb1 | exact keep1 hS.out hb2 | exact keep2 hS.out hb1 hb2 | exact keep2 hS.out hb2 hb1)
    (first | (refine Calls.mono (ha.out _) ?_; rintro e w1 ⟨rfl, hb1⟩) | (refine Calls.mono (hb.out _) ?_; rintro e w2 ⟨rfl, hb2⟩))
  all_goals
    go_wp2_with fail
    go_ret
    exact ⟨rfl, (by first | exact below_step (below_step ((Below.refl _ _).alloc (Nat.le_refl _) _).drew (by simp) hb1) (by simp) hb2 | exact below_step (below_step ((Below.refl _ _).alloc (Nat.le_refl _) _).drew (by simp) hb2) (by simp) hb1)⟩

theorem dual_no (a a' : F) (ha : Hid (DU a a')) : DU (.no a) (.no a') := by
  intro w
  show Calls Try.prog 103 #[.agg #[.iface (ft a) (fi a)]] w fun e w' => e = .returned (.iface 88 (.agg #[.iface (ft a') (fi a')])) ∧ _
  have ma := fun w => dual_method a w
  have ca := fun x w => dual_call a x w
  go_enter Try.func103, Try.ntmps103
  go_wp2_with (refine Calls.mono (ha.out _) ?_; rintro e w1 ⟨rfl, hb1⟩)
  go_ret
  exact ⟨rfl, below_step ((Below.refl _ _).alloc (Nat.le_refl _) _) (by simp) hb1⟩

theorem dual_lt (s : Bs) : DU (.lt s) (.lt s) := by
  intro w
  show Calls Try.prog 91 #[.string ⟨s.toArray⟩] w fun e w' => e = .returned (.iface 81 (.string ⟨s.toArray⟩)) ∧ _
  go_enter Try.func91, Try.ntmps91
  go_wp2_with fail
  go_ret
  exact ⟨rfl, (by repeat (with_reducible first | exact hbel | exact Below.refl _ _ | refine Below.drew ?_ | refine Below.drewN ?_ _ | refine Below.alloc ?_ (by first | (simp; done) | (simp; omega) | omega | (have := Below.size hbel; simp; omega) | (have := Below.size hbel; omega)) _ | refine Below.setCell ?_ (by first | (simp; done) | (simp; omega) | omega) _))⟩

theorem dual_of : ∀ f : F, DU f f.dual
  | .lt s => dual_lt s
  | .an a b => dual_an a b _ _ (dual_of a) (dual_of b)
  | .or a b => dual_or a b _ _ (dual_of a) (dual_of b)
  | .no a => dual_no a _ (dual_of a)

/-! ### The model -/
/-- What a call that hands back a tree asks: the tree that came is there. -/
def DT (f : F) : Prop := ∀ (w : World) (D : Nat → Prop) (a : ByteArray) (p : Option Addr) (n c : Nat), TC w D f.tree a p n c → (∀ g, D g → g < w.heap.size) →
  Calls Try.prog 35 #[.agg #[.string a, .slice p n c]] w (TreeRet D f.dual.tree w)

theorem ldual_lt (s : Bs) : DT (.lt s) := by
  intro w D a p n c ht hD
  rw [F.tree, TC] at ht
  obtain ⟨hs, rfl, rfl, rfl, rfl⟩ := ht
  go_enter Try.func35, Try.ntmps35
  go_wp2_with fail
  refine (head_atom s hs _).mono ?_
  rintro e w1 ⟨rfl, hb1⟩
  have hsb := sb_step (sb_alloc (sb_alloc (sb_refl w w.heap.size) _) _) hb1
  obtain ⟨z0, b0, b1, -, -⟩ := two_cells ((hb1.block w.heap.size (by simp; omega)).trans (first_alloc w _ _))
  obtain ⟨z1, r0, r1, f0, f1⟩ := two_cells ((hb1.block (w.heap.size + 1) (by simp)).trans (second_alloc w _ _))
  have hbel' := Lib.hid (below_step (((Below.refl _ _).alloc (Nat.le_refl _) _).alloc (by simp) _ : Below w.heap.size w ((w.alloc _).alloc _)) (by simp) hb1)
  clear hb1 hsb
  go_wp2_with fail
  refine bodyPost_ret (v := .agg #[.string ⟨s.toArray⟩, .slice none 0 0]) (by simp [results, Try.results35, go_sem, r0, r1]) rfl ?_
  have hbel := hbel'.out
  exact ⟨_, _, _, _, rfl, ⟨hs, rfl, rfl, rfl, rfl⟩, (by repeat (with_reducible first | exact hbel | exact Below.refl _ _ | refine Below.drew ?_ | refine Below.drewN ?_ _ | refine Below.alloc ?_ (by first | (simp; done) | (simp; omega) | omega | (have := Below.size hbel; simp; omega) | (have := Below.size hbel; omega)) _ | refine Below.setCell ?_ (by first | (simp; done) | (simp; omega) | omega) _))⟩

set_option maxRecDepth 100000 in
set_option maxHeartbeats 1000000 in
theorem ldual_an (a b : F) (ha : Hid (DT a)) (hb : Hid (DT b)) (w : World) (D : Nat → Prop) (s : ByteArray) (p : Option Addr) (n c : Nat)
    (ht : TC w D (.node [.atom [42], a.tree, b.tree]) s p n c) (hD : ∀ g, D g → g < w.heap.size) :
    Calls Try.prog 35 #[.agg #[.string s, .slice p n c]] w (TreeRet D (.node [.atom [43], a.dual.tree, b.dual.tree]) w) := by
  obtain ⟨x0, hx0, hcall⟩ := head_node ht hD
  obtain ⟨rfl, hn, g, rfl, hg, hp⟩ := ht.part
  have hn' : n = 3 := hn
  subst hn'
  obtain ⟨a1, p1, n1, c1, y0, y1, t1⟩ := hp 1 a.tree rfl
  obtain ⟨a2, p2, n2, c2, q0, q1, t2⟩ := hp 2 b.tree rfl
  have hgw := hD g hg
  have h42 : (x0.toList == [42]) = true := by rw [hx0]; rfl
  simp only [Nat.one_mul, Nat.reduceMul, Nat.reduceAdd] at y0 y1 q0 q1
  have hcall' := Lib.hid hcall
  have t1' := Lib.hid t1
  have t2' := Lib.hid t2
  have hD' := Lib.hid hD
  clear hcall hp t1 t2 hD hx0 ht hg hn
  go_enter Try.func35, Try.ntmps35
  go_wp2_with fail
  refine (hcall'.out _ (by repeat (with_reducible first | exact hbel | exact Below.refl _ _ | refine Below.drew ?_ | refine Below.drewN ?_ _ | refine Below.alloc ?_ (by first | (simp; done) | (simp; omega) | omega | (have := Below.size hbel; simp; omega) | (have := Below.size hbel; omega)) _ | refine Below.setCell ?_ (by first | (simp; done) | (simp; omega) | omega) _))).mono ?_
  rintro e w0 ⟨rfl, hb0⟩
  have hw0 := Lib.hid (below_step (((Below.refl _ _).alloc (Nat.le_refl _) _).alloc (by simp) _ : Below w.heap.size w ((w.alloc _).alloc _)) (by simp) hb0)
  have hbx := (hb0.block w.heap.size (by simp; omega)).trans (first_alloc w _ _)
  have hrx := (hb0.block (w.heap.size + 1) (by simp)).trans (second_alloc w _ _)
  obtain ⟨z0, b0, b1, -, -⟩ := two_cells hbx
  obtain ⟨z1, r0, r1, f0, f1⟩ := two_cells hrx
  have hS : Hid (∀ W', SB w0 (w.heap.size + 1) W' → W'.cell? ⟨w.heap.size, 1, none⟩ = some (.slice (some ⟨g, 0, none⟩) 3 c) ∧ W'.cell? ⟨g, 2, none⟩ = some (.string a1) ∧ W'.cell? ⟨g, 3, none⟩ = some (.slice p1 n1 c1) ∧
      W'.cell? ⟨g, 4, none⟩ = some (.string a2) ∧ W'.cell? ⟨g, 5, none⟩ = some (.slice p2 n2 c2)) := by
    intro W' h
    have hc : ∀ o, W'.cell? ⟨g, o, none⟩ = w.cell? ⟨g, o, none⟩ := fun o => (h.cell (by omega) (by omega)).trans (hw0.out.cell (p := ⟨g, o, none⟩) hgw)
    exact ⟨(h.cell z0 (by omega)).trans b1, (hc 2).trans y0, (hc 3).trans y1, (hc 4).trans q0, (hc 5).trans q1⟩
  have hA : Hid (∀ W', SB w0 (w.heap.size + 1) W' → Calls Try.prog 35 #[.agg #[.string a1, .slice p1 n1 c1]] W' (TreeRet D a.dual.tree W')) := fun W' h =>
    ha.out W' D a1 p1 n1 c1 (TC.keep (fun g hg => (h.block g (by have := hD'.out g hg; omega) (by have := hD'.out g hg; omega)).trans (hw0.out.block g (hD'.out g hg))) (fun _ h => h) _ _ _ _ _ t1'.out) (fun g hg => by have := hD'.out g hg; have := h.size; omega)
  have hB : Hid (∀ W', SB w0 (w.heap.size + 1) W' → Calls Try.prog 35 #[.agg #[.string a2, .slice p2 n2 c2]] W' (TreeRet D b.dual.tree W')) := fun W' h =>
    hb.out W' D a2 p2 n2 c2 (TC.keep (fun g hg => (h.block g (by have := hD'.out g hg; omega) (by have := hD'.out g hg; omega)).trans (hw0.out.block g (hD'.out g hg))) (fun _ h => h) _ _ _ _ _ t2'.out) (fun g hg => by have := hD'.out g hg; have := h.size; omega)
  have hR : Hid (∀ W', Below w0.heap.size w0 W' → w.heap.size + 1 < W'.heap.size ∧ W'.cell? ⟨w.heap.size + 1, 0, none⟩ = some (.string ⟨#[]⟩) ∧ W'.cell? ⟨w.heap.size + 1, 1, none⟩ = some (.slice none 0 0) ∧
      W'.frozen? ⟨w.heap.size + 1, 0, none⟩ = false ∧ W'.frozen? ⟨w.heap.size + 1, 1, none⟩ = false) := fun W' h => two_cells ((h.block _ z1).trans hrx)
  have hDw : ∀ g, D g → g < w0.heap.size := fun g hg => by have := hD'.out g hg; omega
  have hDw' := Lib.hid hDw
  clear hb0 hbx hrx hDw
  go_wp2_with fail
  go_region_held3 (fun W' => W'.cell? ⟨w.heap.size, 1, none⟩ = some (.slice (some ⟨g, 0, none⟩) 3 c) ∧ W'.cell? ⟨g, 2, none⟩ = some (.string a1) ∧ W'.cell? ⟨g, 3, none⟩ = some (.slice p1 n1 c1) ∧
      W'.cell? ⟨g, 4, none⟩ = some (.string a2) ∧ W'.cell? ⟨g, 5, none⟩ = some (.slice p2 n2 c2))
    (first | exact hS.out _ (by repeat (with_reducible first | exact sb_refl _ _ | exact hsb | refine sb_drew ?_ | refine sb_alloc ?_ _ | refine sb_set ?_ _ _ | refine sb_step ?_ hb1 | refine sb_step ?_ hb2 | refine sb_step ?_ hb3 | refine sb_step ?_ hb4)))
    (first
      | (go_at_call_of 35 a1; refine Calls.mono (hA.out _ (by repeat (with_reducible first | exact sb_refl _ _ | exact hsb | refine sb_drew ?_ | refine sb_alloc ?_ _ | refine sb_set ?_ _ _ | refine sb_step ?_ hb1 | refine sb_step ?_ hb2 | refine sb_step ?_ hb3 | refine sb_step ?_ hb4))) ?_; rintro e w1 ⟨u1, v1, m1, d1, rfl, tc1, hb1⟩)
      | (go_at_call_of 35 a2; refine Calls.mono (hB.out _ (by repeat (with_reducible first | exact sb_refl _ _ | exact hsb | refine sb_drew ?_ | refine sb_alloc ?_ _ | refine sb_set ?_ _ _ | refine sb_step ?_ hb1 | refine sb_step ?_ hb2 | refine sb_step ?_ hb3 | refine sb_step ?_ hb4))) ?_; rintro e w2 ⟨u2, v2, m2, d2, rfl, tc2, hb2⟩)
      | (go_at_call 48; (first | (refine Calls.mono (list2 [43] (by simp) a.dual.tree b.dual.tree (dn_lt (lo := w0.heap.size) hDw'.out (by repeat (with_reducible first | exact Below.refl _ _ | exact hbb | refine Below.drew ?_ | refine bb_alloc ?_ _ | refine below_step ?_ (Nat.le_refl _) hb1 | refine below_step ?_ (Nat.le_refl _) hb2 | refine below_step ?_ (Nat.le_refl _) hb3 | refine below_step ?_ (Nat.le_refl _) hb4))) (tc1.dn (Below.size (B := w0.heap.size) (by repeat (with_reducible first | exact Below.refl _ _ | exact hbb | refine Below.drew ?_ | refine bb_alloc ?_ _ | refine below_step ?_ (Nat.le_refl _) hb1 | refine below_step ?_ (Nat.le_refl _) hb2 | refine below_step ?_ (Nat.le_refl _) hb3 | refine below_step ?_ (Nat.le_refl _) hb4))) (dn_ltD hDw'.out (by repeat (with_reducible first | exact Below.refl _ _ | exact hbb | refine Below.drew ?_ | refine bb_alloc ?_ _ | refine below_step ?_ (Nat.le_refl _) hb1 | refine below_step ?_ (Nat.le_refl _) hb2 | refine below_step ?_ (Nat.le_refl _) hb3 | refine below_step ?_ (Nat.le_refl _) hb4))) hb2) (tc2.dn (Below.size (B := w0.heap.size) (by repeat (with_reducible first | exact Below.refl _ _ | exact hbb | refine Below.drew ?_ | refine bb_alloc ?_ _ | refine below_step ?_ (Nat.le_refl _) hb1 | refine below_step ?_ (Nat.le_refl _) hb2 | refine below_step ?_ (Nat.le_refl _) hb3 | refine below_step ?_ (Nat.le_refl _) hb4))) (dn_ltD hDw'.out (by repeat (with_reducible first | exact Below.refl _ _ | exact hbb | refine Below.drew ?_ | refine bb_alloc ?_ _ | refine below_step ?_ (Nat.le_refl _) hb1 | refine below_step ?_ (Nat.le_refl _) hb2 | refine below_step ?_ (Nat.le_refl _) hb3 | refine below_step ?_ (Nat.le_refl _) hb4))) (Below.refl _ _))) ?_) | (refine Calls.mono (list2 [43] (by simp) a.dual.tree b.dual.tree (dn_lt (lo := w0.heap.size) hDw'.out (by repeat (with_reducible first | exact Below.refl _ _ | exact hbb | refine Below.drew ?_ | refine bb_alloc ?_ _ | refine below_step ?_ (Nat.le_refl _) hb1 | refine below_step ?_ (Nat.le_refl _) hb2 | refine below_step ?_ (Nat.le_refl _) hb3 | refine below_step ?_ (Nat.le_refl _) hb4))) (tc1.dn (Below.size (B := w0.heap.size) (by repeat (with_reducible first | exact Below.refl _ _ | exact hbb | refine Below.drew ?_ | refine bb_alloc ?_ _ | refine below_step ?_ (Nat.le_refl _) hb1 | refine below_step ?_ (Nat.le_refl _) hb2 | refine below_step ?_ (Nat.le_refl _) hb3 | refine below_step ?_ (Nat.le_refl _) hb4))) (dn_ltD hDw'.out (by repeat (with_reducible first | exact Below.refl _ _ | exact hbb | refine Below.drew ?_ | refine bb_alloc ?_ _ | refine below_step ?_ (Nat.le_refl _) hb1 | refine below_step ?_ (Nat.le_refl _) hb2 | refine below_step ?_ (Nat.le_refl _) hb3 | refine below_step ?_ (Nat.le_refl _) hb4))) (Below.refl _ _)) (tc2.dn (Below.size (B := w0.heap.size) (by repeat (with_reducible first | exact Below.refl _ _ | exact hbb | refine Below.drew ?_ | refine bb_alloc ?_ _ | refine below_step ?_ (Nat.le_refl _) hb1 | refine below_step ?_ (Nat.le_refl _) hb2 | refine below_step ?_ (Nat.le_refl _) hb3 | refine below_step ?_ (Nat.le_refl _) hb4))) (dn_ltD hDw'.out (by repeat (with_reducible first | exact Below.refl _ _ | exact hbb | refine Below.drew ?_ | refine bb_alloc ?_ _ | refine below_step ?_ (Nat.le_refl _) hb1 | refine below_step ?_ (Nat.le_refl _) hb2 | refine below_step ?_ (Nat.le_refl _) hb3 | refine below_step ?_ (Nat.le_refl _) hb4))) hb1)) ?_)); rintro e w3 ⟨u3, v3, m3, d3, rfl, tc3, hb3⟩; obtain ⟨e0, e1, e2, e3, e4⟩ := hR.out w3 (by repeat (with_reducible first | exact Below.refl _ _ | exact hbb | refine Below.drew ?_ | refine bb_alloc ?_ _ | refine below_step ?_ (Nat.le_refl _) hb1 | refine below_step ?_ (Nat.le_refl _) hb2 | refine below_step ?_ (Nat.le_refl _) hb3 | refine below_step ?_ (Nat.le_refl _) hb4))))
  go_wp2_with fail
  refine bodyPost_ret (v := .agg #[.string u3, .slice v3 m3 d3]) (by simp [results, Try.results35, go_sem, e1, e2]) rfl ?_
  have hbel : Below w.heap.size w w3 := below_step hw0.out (Nat.le_refl _) ((by repeat (with_reducible first | exact Below.refl _ _ | exact hbb | refine Below.drew ?_ | refine bb_alloc ?_ _ | refine below_step ?_ (Nat.le_refl _) hb1 | refine below_step ?_ (Nat.le_refl _) hb2 | refine below_step ?_ (Nat.le_refl _) hb3 | refine below_step ?_ (Nat.le_refl _) hb4)) : Below w0.heap.size w0 w3)
  have s1 := hb1.size
  have s2 := hb2.size
  have s3 := hb3.size
  simp at s1 s2 s3
  refine ⟨_, _, _, _, rfl, TC.keep (fun g' hg' => ?_) (fun g' hg' => ?_) _ _ _ _ _ tc3, (by repeat (with_reducible first | exact hbel | exact Below.refl _ _ | refine Below.drew ?_ | refine Below.drewN ?_ _ | refine Below.alloc ?_ (by first | (simp; done) | (simp; omega) | omega | (have := Below.size hbel; simp; omega) | (have := Below.size hbel; omega)) _ | refine Below.setCell ?_ (by first | (simp; done) | (simp; omega) | omega) _))⟩
  · refine same_set _ _ _ _ _ ?_
    rcases hg' with (hg' | hg') | hg'
    · have := hD'.out g' hg'; omega
    · omega
    · simp at hg'; omega
  · rcases hg' with (hg' | hg') | hg'
    · exact .inl hg'
    · exact .inr ⟨by omega, by simp; omega⟩
    · simp at hg'; exact .inr ⟨by omega, by simp; omega⟩


set_option maxRecDepth 100000 in
set_option maxHeartbeats 1000000 in
theorem ldual_or (a b : F) (ha : Hid (DT a)) (hb : Hid (DT b)) (w : World) (D : Nat → Prop) (s : ByteArray) (p : Option Addr) (n c : Nat)
    (ht : TC w D (.node [.atom [43], a.tree, b.tree]) s p n c) (hD : ∀ g, D g → g < w.heap.size) :
    Calls Try.prog 35 #[.agg #[.string s, .slice p n c]] w (TreeRet D (.node [.atom [42], a.dual.tree, b.dual.tree]) w) := by
  obtain ⟨x0, hx0, hcall⟩ := head_node ht hD
  obtain ⟨rfl, hn, g, rfl, hg, hp⟩ := ht.part
  have hn' : n = 3 := hn
  subst hn'
  obtain ⟨a1, p1, n1, c1, y0, y1, t1⟩ := hp 1 a.tree rfl
  obtain ⟨a2, p2, n2, c2, q0, q1, t2⟩ := hp 2 b.tree rfl
  have hgw := hD g hg
  have h42 : (x0.toList == [42]) = false := by rw [hx0]; rfl
  have h43 : (x0.toList == [43]) = true := by rw [hx0]; rfl
  simp only [Nat.one_mul, Nat.reduceMul, Nat.reduceAdd] at y0 y1 q0 q1
  have hcall' := Lib.hid hcall
  have t1' := Lib.hid t1
  have t2' := Lib.hid t2
  have hD' := Lib.hid hD
  clear hcall hp t1 t2 hD hx0 ht hg hn
  go_enter Try.func35, Try.ntmps35
  go_wp2_with fail
  refine (hcall'.out _ (by repeat (with_reducible first | exact hbel | exact Below.refl _ _ | refine Below.drew ?_ | refine Below.drewN ?_ _ | refine Below.alloc ?_ (by first | (simp; done) | (simp; omega) | omega | (have := Below.size hbel; simp; omega) | (have := Below.size hbel; omega)) _ | refine Below.setCell ?_ (by first | (simp; done) | (simp; omega) | omega) _))).mono ?_
  rintro e w0 ⟨rfl, hb0⟩
  have hw0 := Lib.hid (below_step (((Below.refl _ _).alloc (Nat.le_refl _) _).alloc (by simp) _ : Below w.heap.size w ((w.alloc _).alloc _)) (by simp) hb0)
  have hbx := (hb0.block w.heap.size (by simp; omega)).trans (first_alloc w _ _)
  have hrx := (hb0.block (w.heap.size + 1) (by simp)).trans (second_alloc w _ _)
  obtain ⟨z0, b0, b1, -, -⟩ := two_cells hbx
  obtain ⟨z1, r0, r1, f0, f1⟩ := two_cells hrx
  have hS : Hid (∀ W', SB w0 (w.heap.size + 1) W' → W'.cell? ⟨w.heap.size, 1, none⟩ = some (.slice (some ⟨g, 0, none⟩) 3 c) ∧ W'.cell? ⟨g, 2, none⟩ = some (.string a1) ∧ W'.cell? ⟨g, 3, none⟩ = some (.slice p1 n1 c1) ∧
      W'.cell? ⟨g, 4, none⟩ = some (.string a2) ∧ W'.cell? ⟨g, 5, none⟩ = some (.slice p2 n2 c2)) := by
    intro W' h
    have hc : ∀ o, W'.cell? ⟨g, o, none⟩ = w.cell? ⟨g, o, none⟩ := fun o => (h.cell (by omega) (by omega)).trans (hw0.out.cell (p := ⟨g, o, none⟩) hgw)
    exact ⟨(h.cell z0 (by omega)).trans b1, (hc 2).trans y0, (hc 3).trans y1, (hc 4).trans q0, (hc 5).trans q1⟩
  have hA : Hid (∀ W', SB w0 (w.heap.size + 1) W' → Calls Try.prog 35 #[.agg #[.string a1, .slice p1 n1 c1]] W' (TreeRet D a.dual.tree W')) := fun W' h =>
    ha.out W' D a1 p1 n1 c1 (TC.keep (fun g hg => (h.block g (by have := hD'.out g hg; omega) (by have := hD'.out g hg; omega)).trans (hw0.out.block g (hD'.out g hg))) (fun _ h => h) _ _ _ _ _ t1'.out) (fun g hg => by have := hD'.out g hg; have := h.size; omega)
  have hB : Hid (∀ W', SB w0 (w.heap.size + 1) W' → Calls Try.prog 35 #[.agg #[.string a2, .slice p2 n2 c2]] W' (TreeRet D b.dual.tree W')) := fun W' h =>
    hb.out W' D a2 p2 n2 c2 (TC.keep (fun g hg => (h.block g (by have := hD'.out g hg; omega) (by have := hD'.out g hg; omega)).trans (hw0.out.block g (hD'.out g hg))) (fun _ h => h) _ _ _ _ _ t2'.out) (fun g hg => by have := hD'.out g hg; have := h.size; omega)
  have hR : Hid (∀ W', Below w0.heap.size w0 W' → w.heap.size + 1 < W'.heap.size ∧ W'.cell? ⟨w.heap.size + 1, 0, none⟩ = some (.string ⟨#[]⟩) ∧ W'.cell? ⟨w.heap.size + 1, 1, none⟩ = some (.slice none 0 0) ∧
      W'.frozen? ⟨w.heap.size + 1, 0, none⟩ = false ∧ W'.frozen? ⟨w.heap.size + 1, 1, none⟩ = false) := fun W' h => two_cells ((h.block _ z1).trans hrx)
  have hDw : ∀ g, D g → g < w0.heap.size := fun g hg => by have := hD'.out g hg; omega
  have hDw' := Lib.hid hDw
  clear hb0 hbx hrx hDw
  go_wp2_with fail
  go_region_held3 (fun W' => W'.cell? ⟨w.heap.size, 1, none⟩ = some (.slice (some ⟨g, 0, none⟩) 3 c) ∧ W'.cell? ⟨g, 2, none⟩ = some (.string a1) ∧ W'.cell? ⟨g, 3, none⟩ = some (.slice p1 n1 c1) ∧
      W'.cell? ⟨g, 4, none⟩ = some (.string a2) ∧ W'.cell? ⟨g, 5, none⟩ = some (.slice p2 n2 c2))
    (first | exact hS.out _ (by repeat (with_reducible first | exact sb_refl _ _ | exact hsb | refine sb_drew ?_ | refine sb_alloc ?_ _ | refine sb_set ?_ _ _ | refine sb_step ?_ hb1 | refine sb_step ?_ hb2 | refine sb_step ?_ hb3 | refine sb_step ?_ hb4)))
    (first
      | (go_at_call_of 35 a1; refine Calls.mono (hA.out _ (by repeat (with_reducible first | exact sb_refl _ _ | exact hsb | refine sb_drew ?_ | refine sb_alloc ?_ _ | refine sb_set ?_ _ _ | refine sb_step ?_ hb1 | refine sb_step ?_ hb2 | refine sb_step ?_ hb3 | refine sb_step ?_ hb4))) ?_; rintro e w1 ⟨u1, v1, m1, d1, rfl, tc1, hb1⟩)
      | (go_at_call_of 35 a2; refine Calls.mono (hB.out _ (by repeat (with_reducible first | exact sb_refl _ _ | exact hsb | refine sb_drew ?_ | refine sb_alloc ?_ _ | refine sb_set ?_ _ _ | refine sb_step ?_ hb1 | refine sb_step ?_ hb2 | refine sb_step ?_ hb3 | refine sb_step ?_ hb4))) ?_; rintro e w2 ⟨u2, v2, m2, d2, rfl, tc2, hb2⟩)
      | (go_at_call 48; (first | (refine Calls.mono (list2 [42] (by simp) a.dual.tree b.dual.tree (dn_lt (lo := w0.heap.size) hDw'.out (by repeat (with_reducible first | exact Below.refl _ _ | exact hbb | refine Below.drew ?_ | refine bb_alloc ?_ _ | refine below_step ?_ (Nat.le_refl _) hb1 | refine below_step ?_ (Nat.le_refl _) hb2 | refine below_step ?_ (Nat.le_refl _) hb3 | refine below_step ?_ (Nat.le_refl _) hb4))) (tc1.dn (Below.size (B := w0.heap.size) (by repeat (with_reducible first | exact Below.refl _ _ | exact hbb | refine Below.drew ?_ | refine bb_alloc ?_ _ | refine below_step ?_ (Nat.le_refl _) hb1 | refine below_step ?_ (Nat.le_refl _) hb2 | refine below_step ?_ (Nat.le_refl _) hb3 | refine below_step ?_ (Nat.le_refl _) hb4))) (dn_ltD hDw'.out (by repeat (with_reducible first | exact Below.refl _ _ | exact hbb | refine Below.drew ?_ | refine bb_alloc ?_ _ | refine below_step ?_ (Nat.le_refl _) hb1 | refine below_step ?_ (Nat.le_refl _) hb2 | refine below_step ?_ (Nat.le_refl _) hb3 | refine below_step ?_ (Nat.le_refl _) hb4))) hb2) (tc2.dn (Below.size (B := w0.heap.size) (by repeat (with_reducible first | exact Below.refl _ _ | exact hbb | refine Below.drew ?_ | refine bb_alloc ?_ _ | refine below_step ?_ (Nat.le_refl _) hb1 | refine below_step ?_ (Nat.le_refl _) hb2 | refine below_step ?_ (Nat.le_refl _) hb3 | refine below_step ?_ (Nat.le_refl _) hb4))) (dn_ltD hDw'.out (by repeat (with_reducible first | exact Below.refl _ _ | exact hbb | refine Below.drew ?_ | refine bb_alloc ?_ _ | refine below_step ?_ (Nat.le_refl _) hb1 | refine below_step ?_ (Nat.le_refl _) hb2 | refine below_step ?_ (Nat.le_refl _) hb3 | refine below_step ?_ (Nat.le_refl _) hb4))) (Below.refl _ _))) ?_) | (refine Calls.mono (list2 [42] (by simp) a.dual.tree b.dual.tree (dn_lt (lo := w0.heap.size) hDw'.out (by repeat (with_reducible first | exact Below.refl _ _ | exact hbb | refine Below.drew ?_ | refine bb_alloc ?_ _ | refine below_step ?_ (Nat.le_refl _) hb1 | refine below_step ?_ (Nat.le_refl _) hb2 | refine below_step ?_ (Nat.le_refl _) hb3 | refine below_step ?_ (Nat.le_refl _) hb4))) (tc1.dn (Below.size (B := w0.heap.size) (by repeat (with_reducible first | exact Below.refl _ _ | exact hbb | refine Below.drew ?_ | refine bb_alloc ?_ _ | refine below_step ?_ (Nat.le_refl _) hb1 | refine below_step ?_ (Nat.le_refl _) hb2 | refine below_step ?_ (Nat.le_refl _) hb3 | refine below_step ?_ (Nat.le_refl _) hb4))) (dn_ltD hDw'.out (by repeat (with_reducible first | exact Below.refl _ _ | exact hbb | refine Below.drew ?_ | refine bb_alloc ?_ _ | refine below_step ?_ (Nat.le_refl _) hb1 | refine below_step ?_ (Nat.le_refl _) hb2 | refine below_step ?_ (Nat.le_refl _) hb3 | refine below_step ?_ (Nat.le_refl _) hb4))) (Below.refl _ _)) (tc2.dn (Below.size (B := w0.heap.size) (by repeat (with_reducible first | exact Below.refl _ _ | exact hbb | refine Below.drew ?_ | refine bb_alloc ?_ _ | refine below_step ?_ (Nat.le_refl _) hb1 | refine below_step ?_ (Nat.le_refl _) hb2 | refine below_step ?_ (Nat.le_refl _) hb3 | refine below_step ?_ (Nat.le_refl _) hb4))) (dn_ltD hDw'.out (by repeat (with_reducible first | exact Below.refl _ _ | exact hbb | refine Below.drew ?_ | refine bb_alloc ?_ _ | refine below_step ?_ (Nat.le_refl _) hb1 | refine below_step ?_ (Nat.le_refl _) hb2 | refine below_step ?_ (Nat.le_refl _) hb3 | refine below_step ?_ (Nat.le_refl _) hb4))) hb1)) ?_)); rintro e w3 ⟨u3, v3, m3, d3, rfl, tc3, hb3⟩; obtain ⟨e0, e1, e2, e3, e4⟩ := hR.out w3 (by repeat (with_reducible first | exact Below.refl _ _ | exact hbb | refine Below.drew ?_ | refine bb_alloc ?_ _ | refine below_step ?_ (Nat.le_refl _) hb1 | refine below_step ?_ (Nat.le_refl _) hb2 | refine below_step ?_ (Nat.le_refl _) hb3 | refine below_step ?_ (Nat.le_refl _) hb4))))
  go_wp2_with fail
  refine bodyPost_ret (v := .agg #[.string u3, .slice v3 m3 d3]) (by simp [results, Try.results35, go_sem, e1, e2]) rfl ?_
  have hbel : Below w.heap.size w w3 := below_step hw0.out (Nat.le_refl _) ((by repeat (with_reducible first | exact Below.refl _ _ | exact hbb | refine Below.drew ?_ | refine bb_alloc ?_ _ | refine below_step ?_ (Nat.le_refl _) hb1 | refine below_step ?_ (Nat.le_refl _) hb2 | refine below_step ?_ (Nat.le_refl _) hb3 | refine below_step ?_ (Nat.le_refl _) hb4)) : Below w0.heap.size w0 w3)
  have s1 := hb1.size
  have s2 := hb2.size
  have s3 := hb3.size
  simp at s1 s2 s3
  refine ⟨_, _, _, _, rfl, TC.keep (fun g' hg' => ?_) (fun g' hg' => ?_) _ _ _ _ _ tc3, (by repeat (with_reducible first | exact hbel | exact Below.refl _ _ | refine Below.drew ?_ | refine Below.drewN ?_ _ | refine Below.alloc ?_ (by first | (simp; done) | (simp; omega) | omega | (have := Below.size hbel; simp; omega) | (have := Below.size hbel; omega)) _ | refine Below.setCell ?_ (by first | (simp; done) | (simp; omega) | omega) _))⟩
  · refine same_set _ _ _ _ _ ?_
    rcases hg' with (hg' | hg') | hg'
    · have := hD'.out g' hg'; omega
    · omega
    · simp at hg'; omega
  · rcases hg' with (hg' | hg') | hg'
    · exact .inl hg'
    · exact .inr ⟨by omega, by simp; omega⟩
    · simp at hg'; exact .inr ⟨by omega, by simp; omega⟩



set_option maxRecDepth 100000 in
set_option maxHeartbeats 1000000 in
theorem ldual_no (a : F) (ha : Hid (DT a)) (w : World) (D : Nat → Prop) (s : ByteArray) (p : Option Addr) (n c : Nat)
    (ht : TC w D (.node [.atom [45], a.tree]) s p n c) (hD : ∀ g, D g → g < w.heap.size) :
    Calls Try.prog 35 #[.agg #[.string s, .slice p n c]] w (TreeRet D (.node [.atom [45], a.dual.tree]) w) := by
  obtain ⟨x0, hx0, hcall⟩ := head_node ht hD
  obtain ⟨rfl, hn, g, rfl, hg, hp⟩ := ht.part
  have hn' : n = 2 := hn
  subst hn'
  obtain ⟨a1, p1, n1, c1, y0, y1, t1⟩ := hp 1 a.tree rfl
  have hgw := hD g hg
  have h42 : (x0.toList == [42]) = false := by rw [hx0]; rfl
  have h43 : (x0.toList == [43]) = false := by rw [hx0]; rfl
  have h45 : (x0.toList == [45]) = true := by rw [hx0]; rfl
  simp only [Nat.one_mul, Nat.reduceAdd] at y0 y1
  have hcall' := Lib.hid hcall
  have t1' := Lib.hid t1
  have hD' := Lib.hid hD
  clear hcall hp t1 hD hx0 ht hg hn
  go_enter Try.func35, Try.ntmps35
  go_wp2_with fail
  refine (hcall'.out _ (by repeat (with_reducible first | exact hbel | exact Below.refl _ _ | refine Below.drew ?_ | refine Below.drewN ?_ _ | refine Below.alloc ?_ (by first | (simp; done) | (simp; omega) | omega | (have := Below.size hbel; simp; omega) | (have := Below.size hbel; omega)) _ | refine Below.setCell ?_ (by first | (simp; done) | (simp; omega) | omega) _))).mono ?_
  rintro e w0 ⟨rfl, hb0⟩
  have hw0 := Lib.hid (below_step (((Below.refl _ _).alloc (Nat.le_refl _) _).alloc (by simp) _ : Below w.heap.size w ((w.alloc _).alloc _)) (by simp) hb0)
  have hbx := (hb0.block w.heap.size (by simp; omega)).trans (first_alloc w _ _)
  have hrx := (hb0.block (w.heap.size + 1) (by simp)).trans (second_alloc w _ _)
  obtain ⟨z0, b0, b1, -, -⟩ := two_cells hbx
  obtain ⟨z1, -⟩ := two_cells hrx
  have y0' := (hw0.out.cell (p := ⟨g, 2, none⟩) hgw).trans y0
  have y1' := (hw0.out.cell (p := ⟨g, 3, none⟩) hgw).trans y1
  have hA : Hid (Calls Try.prog 35 #[.agg #[.string a1, .slice p1 n1 c1]] w0 (TreeRet D a.dual.tree w0)) :=
    ha.out w0 D a1 p1 n1 c1 (TC.keep (fun g hg => hw0.out.block g (hD'.out g hg)) (fun _ h => h) _ _ _ _ _ t1'.out) (fun g hg => by have := hD'.out g hg; omega)
  have hR : Hid (∀ W', Below w0.heap.size w0 W' → w.heap.size + 1 < W'.heap.size ∧ W'.cell? ⟨w.heap.size + 1, 0, none⟩ = some (.string ⟨#[]⟩) ∧ W'.cell? ⟨w.heap.size + 1, 1, none⟩ = some (.slice none 0 0) ∧
      W'.frozen? ⟨w.heap.size + 1, 0, none⟩ = false ∧ W'.frozen? ⟨w.heap.size + 1, 1, none⟩ = false) := fun W' h => two_cells ((h.block _ z1).trans hrx)
  have hDw : ∀ g, D g → g < w0.heap.size := fun g hg => by have := hD'.out g hg; omega
  have hDw' := Lib.hid hDw
  clear hb0 hbx hrx hDw y0 y1
  go_wp2_with fail
  refine hA.out.mono ?_
  rintro e w1 ⟨u1, v1, m1, d1, rfl, tc1, hb1⟩
  have tc1' := Lib.hid tc1
  clear tc1
  go_wp2_with fail
  refine Calls.mono (list1 [45] (by simp) a.dual.tree (dn_lt (lo := w0.heap.size) hDw'.out (by repeat (with_reducible first | exact Below.refl _ _ | exact hbb | refine Below.drew ?_ | refine bb_alloc ?_ _ | refine below_step ?_ (Nat.le_refl _) hb1 | refine below_step ?_ (Nat.le_refl _) hb2 | refine below_step ?_ (Nat.le_refl _) hb3 | refine below_step ?_ (Nat.le_refl _) hb4))) (tc1'.out.dn (Below.size (B := w0.heap.size) (by repeat (with_reducible first | exact Below.refl _ _ | exact hbb | refine Below.drew ?_ | refine bb_alloc ?_ _ | refine below_step ?_ (Nat.le_refl _) hb1 | refine below_step ?_ (Nat.le_refl _) hb2 | refine below_step ?_ (Nat.le_refl _) hb3 | refine below_step ?_ (Nat.le_refl _) hb4))) (dn_ltD hDw'.out (by repeat (with_reducible first | exact Below.refl _ _ | exact hbb | refine Below.drew ?_ | refine bb_alloc ?_ _ | refine below_step ?_ (Nat.le_refl _) hb1 | refine below_step ?_ (Nat.le_refl _) hb2 | refine below_step ?_ (Nat.le_refl _) hb3 | refine below_step ?_ (Nat.le_refl _) hb4))) (Below.refl _ _))) ?_
  rintro e w3 ⟨u3, v3, m3, d3, rfl, tc3, hb3⟩
  have tc3' := Lib.hid tc3
  obtain ⟨e0, e1, e2, e3, e4⟩ := hR.out w3 (by repeat (with_reducible first | exact Below.refl _ _ | exact hbb | refine Below.drew ?_ | refine bb_alloc ?_ _ | refine below_step ?_ (Nat.le_refl _) hb1 | refine below_step ?_ (Nat.le_refl _) hb2 | refine below_step ?_ (Nat.le_refl _) hb3 | refine below_step ?_ (Nat.le_refl _) hb4))
  clear tc3
  go_wp2_with fail
  refine bodyPost_ret (v := .agg #[.string u3, .slice v3 m3 d3]) (by simp [results, Try.results35, go_sem, e1, e2]) rfl ?_
  have hbel : Below w.heap.size w w3 := below_step hw0.out (Nat.le_refl _) ((by repeat (with_reducible first | exact Below.refl _ _ | exact hbb | refine Below.drew ?_ | refine bb_alloc ?_ _ | refine below_step ?_ (Nat.le_refl _) hb1 | refine below_step ?_ (Nat.le_refl _) hb2 | refine below_step ?_ (Nat.le_refl _) hb3 | refine below_step ?_ (Nat.le_refl _) hb4)) : Below w0.heap.size w0 w3)
  have s1 := hb1.size
  have s3 := hb3.size
  simp at s1 s3
  refine ⟨_, _, _, _, rfl, TC.keep (fun g' hg' => ?_) (fun g' hg' => ?_) _ _ _ _ _ tc3'.out, (by repeat (with_reducible first | exact hbel | exact Below.refl _ _ | refine Below.drew ?_ | refine Below.drewN ?_ _ | refine Below.alloc ?_ (by first | (simp; done) | (simp; omega) | omega | (have := Below.size hbel; simp; omega) | (have := Below.size hbel; omega)) _ | refine Below.setCell ?_ (by first | (simp; done) | (simp; omega) | omega) _))⟩
  · refine same_set _ _ _ _ _ ?_
    rcases hg' with (hg' | hg') | hg'
    · have := hD'.out g' hg'; omega
    · omega
    · simp at hg'; omega
  · rcases hg' with (hg' | hg') | hg'
    · exact .inl hg'
    · exact .inr ⟨by omega, by simp; omega⟩
    · simp at hg'; exact .inr ⟨by omega, by simp; omega⟩

theorem ldual_of : ∀ f : F, DT f
  | .lt s => ldual_lt s
  | .an a b => fun w D s p n c ht hD => ldual_an a b (ldual_of a) (ldual_of b) w D s p n c ht hD
  | .or a b => fun w D s p n c ht hD => ldual_or a b (ldual_of a) (ldual_of b) w D s p n c ht hD
  | .no a => fun w D s p n c ht hD => ldual_no a (ldual_of a) w D s p n c ht hD

end Go.Proofs.Ytdbdcfijeeelkaa
