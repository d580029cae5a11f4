/- Duals of formulas: impl's methods 'dual', the model's l1List and l1Dual. -/
import Derived.Test.YtmnppkmgohpmaaaTextF
namespace Go.Proofs.Ytmnppkmgohpmaaa
open Go.RowKit

def dualFn : F → FuncId
  | .lt _ => 93
  | .an _ _ => 97
  | .or _ _ => 101
  | .no _ => 105
theorem dual_method (f : F) (w : World) : (method 213 (ft f) (fi f) "loop.example/classicalcontrol/impl.dual").run Try.prog w = .ok (dualFn f, fi f) w := by
  cases f <;> kernel_rfl
theorem dual_call (f : F) (x : Value) (w : World) : (callFunc (dualFn f) #[x]).run Try.prog w = .ok (.enter (dualFn f) #[x]) w := by
  cases f <;> kernel_rfl

def DU (f : F) (g : F) : Prop := ∀ w : World, Calls Try.prog (dualFn f) #[fi f] w fun e w' => e = .returned (.iface (ft g) (fi g)) ∧ Below w.heap.size w w'

theorem dual_an (a b a' b' : F) (ha : Hid (DU a a')) (hb : Hid (DU b b')) : DU (.an a b) (.or a' b') := by
  intro w
  show Calls Try.prog 97 #[.agg #[.iface (ft a) (fi a), .iface (ft b) (fi b)]] w fun e w' => e = .returned (.iface 82 (.agg #[.iface (ft a') (fi a'), .iface (ft b') (fi b')])) ∧ _
  have ma := fun w => dual_method a w
  have mb := fun w => dual_method b w
  have ca := fun x w => dual_call a x w
  have cb := fun x w => dual_call b x w
  have hS := two_kept w (.iface (ft a) (fi a)) (.iface (ft b) (fi b)) 81
  go_enter Try.func97, Try.ntmps97
  go_wp2_with fail
  go_region_held3 (fun w' => w'.cell? ⟨w.heap.size, 0, none⟩ = some (.iface (ft a) (fi a)) ∧ w'.cell? ⟨w.heap.size, 1, none⟩ = some (.iface (ft b) (fi b)))
    (first | exact keep0 hS.out | exact keep1 hS.out hb1 | exact keep1 hS.out hb2 | exact keep2 hS.out hb1 hb2 | exact keep2 hS.out hb2 hb1)
    (first | (refine Calls.mono (ha.out _) ?_; rintro e w1 ⟨rfl, hb1⟩) | (refine Calls.mono (hb.out _) ?_; rintro e w2 ⟨rfl, hb2⟩))
  all_goals
    go_wp2_with fail
    go_ret
    exact ⟨rfl, (by first | exact below_step (below_step ((Below.refl _ _).alloc (Nat.le_refl _) _).drew (by simp) hb1) (by simp) hb2 | exact below_step (below_step ((Below.refl _ _).alloc (Nat.le_refl _) _).drew (by simp) hb2) (by simp) hb1)⟩

theorem dual_or (a b a' b' : F) (ha : Hid (DU a a')) (hb : Hid (DU b b')) : DU (.or a b) (.an a' b') := by
  intro w
  show Calls Try.prog 101 #[.agg #[.iface (ft a) (fi a), .iface (ft b) (fi b)]] w fun e w' => e = .returned (.iface 81 (.agg #[.iface (ft a') (fi a'), .iface (ft b') (fi b')])) ∧ _
  have ma := fun w => dual_method a w
  have mb := fun w => dual_method b w
  have ca := fun x w => dual_call a x w
  have cb := fun x w => dual_call b x w
  have hS := two_kept w (.iface (ft a) (fi a)) (.iface (ft b) (fi b)) 82
  go_enter Try.func101, Try.ntmps101
  go_wp2_with fail
  go_region_held3 (fun w' => w'.cell? ⟨w.heap.size, 0, none⟩ = some (.iface (ft a) (fi a)) ∧ w'.cell? ⟨w.heap.size, 1, none⟩ = some (.iface (ft b) (fi b)))
    (first | exact keep0 hS.out | exact keep1 hS.out hb1 | exact keep1 hS.out hb2 | exact keep2 hS.out hb1 hb2 | exact keep2 hS.out hb2 hb1)
    (first | (refine Calls.mono (ha.out _) ?_; rintro e w1 ⟨rfl, hb1⟩) | (refine Calls.mono (hb.out _) ?_; rintro e w2 ⟨rfl, hb2⟩))
  all_goals
    go_wp2_with fail
    go_ret
    exact ⟨rfl, (by first | exact below_step (below_step ((Below.refl _ _).alloc (Nat.le_refl _) _).drew (by simp) hb1) (by simp) hb2 | exact below_step (below_step ((Below.refl _ _).alloc (Nat.le_refl _) _).drew (by simp) hb2) (by simp) hb1)⟩

theorem dual_no (a a' : F) (ha : Hid (DU a a')) : DU (.no a) (.no a') := by
  intro w
  show Calls Try.prog 105 #[.agg #[.iface (ft a) (fi a)]] w fun e w' => e = .returned (.iface 84 (.agg #[.iface (ft a') (fi a')])) ∧ _
  have ma := fun w => dual_method a w
  have ca := fun x w => dual_call a x w
  go_enter Try.func105, Try.ntmps105
  go_wp2_with (refine Calls.mono (ha.out _) ?_; rintro e w1 ⟨rfl, hb1⟩)
  go_ret
  exact ⟨rfl, below_step ((Below.refl _ _).alloc (Nat.le_refl _) _) (by simp) hb1⟩

theorem dual_lt (s : Bs) : DU (.lt s) (.lt s) := by
  intro w
  show Calls Try.prog 93 #[.string ⟨s.toArray⟩] w fun e w' => e = .returned (.iface 79 (.string ⟨s.toArray⟩)) ∧ _
  go_enter Try.func93, Try.ntmps93
  go_wp2_with fail
  go_ret
  exact ⟨rfl, (by repeat (with_reducible first | exact hbel | exact Below.refl _ _ | refine Below.drew ?_ | refine Below.drewN ?_ _ | refine Below.alloc ?_ (by first | (simp; done) | (simp; omega) | omega | (have := Below.size hbel; simp; omega) | (have := Below.size hbel; omega)) _ | refine Below.setCell ?_ (by first | (simp; done) | (simp; omega) | omega) _))⟩

theorem dual_of : ∀ f : F, DU f f.dual
  | .lt s => dual_lt s
  | .an a b => dual_an a b _ _ (dual_of a) (dual_of b)
  | .or a b => dual_or a b _ _ (dual_of a) (dual_of b)
  | .no a => dual_no a _ (dual_of a)

/-! ### The model -/
/-- A call hands back the tree t, which reads what D allows and what is new; and it only makes memory. -/
def TreeRet (D : Nat → Prop) (t : T) (w : World) (e : Ending) (w' : World) : Prop :=
  ∃ a p n c, e = .returned (.agg #[.string a, .slice p n c]) ∧ TC w' (DN D w.heap.size w') t a p n c ∧ Below w.heap.size w w'

/-- A slice that the text itself writes out is a row of the call's own. -/
theorem own_block {w : World} {g : Nat} {E : TypeId} {x y : Value} (base : Nat) (hb : base ≤ g) (h : w.heap[g]? = some (.cells #[x, y] E (0, 0))) : w.ownsRow base E 2 (.slice (some ⟨g, 0, none⟩) 1 1) 1 [x, y] :=
  ⟨rfl, .inr ⟨g, 1, #[x, y], rfl, hb, h, Nat.le_refl _, by unfold maxLen; omega, rfl, rfl⟩⟩

theorem l1List_any (h : Bs) (hh : h ≠ []) (ps : List T) (xs : List Value) (g c : Nat) (w : World) (D : Nat → Prop) (hk : Kids w D ps xs) (hcells : ∀ (j : Nat) (u : Value), xs[j]? = some u → w.cell? ⟨g, j, none⟩ = some u)
    (hD : ∀ g, D g → g < w.heap.size) (hg : g < w.heap.size) (hps : 1 ≤ ps.length) (hps9 : ps.length ≤ 9000) :
    Calls Try.prog 60 #[.string ⟨h.toArray⟩, .slice (some ⟨g, 0, none⟩) ps.length c] w (TreeRet D (.node (.atom h :: ps)) w) := by
  obtain ⟨i0, hi0, hz0, hz1, hz2⟩ := info_parts infoTree
  have hk' := Lib.hid hk
  have hc' := Lib.hid hcells
  have hD' := Lib.hid hD
  have hxl := Lib.hid (Kids.length hk)
  clear hk hcells hD
  go_enter Try.func60, Try.ntmps60
  go_wp2_with (first
    | (at_builtin; go_loud (refine wpList_append_lies _ rfl (.tmp 7) (.tmp 8) 35 rfl (w.heap.size + 1) 37 i0 _ 2 40 Try.underlying35 hi0 hz0 hz1 hz2 rfl (by decide) _ _ _ rfl (own_block _ ?c0 (second_alloc _ _ _)) ⟨g, 0, none⟩ ps.length c xs rfl hxl.out ?c1 ?c2 hps ?c3 ?c4 ?c5 _ rfl ?_))
    | fail)
  case c0 => exact Nat.le_refl _
  case c1 =>
    intro j u hu
    have hlt := (List.getElem?_eq_some_iff.1 hu).1
    have e : ({ block := g, off := 0, spot := none } : Addr).add j = ⟨g, j, none⟩ := by unfold Addr.add; split <;> simp_all
    rw [e, World.cell?_alloc_lt _ _ _ (by simp; omega), World.cell?_alloc_lt _ _ _ hg]
    exact hc'.out j u hu
  case c2 => exact hk'.out.oneCell
  case c3 => unfold maxLen; omega
  case c4 => omega
  case c5 => simp
  intro g1 cap w2 hown hgrow hat hlt
  have hW : Below w.heap.size w ((w.alloc (.cells #[.string ⟨#[]⟩, .slice none 0 0] 37)).alloc (.cells #[.string ⟨h.toArray⟩, .slice none 0 0] 37)) := ((Below.refl _ _).alloc (Nat.le_refl _) _).alloc (by simp) _
  have hres : w2.heap[w.heap.size]? = some (.cells #[.string ⟨#[]⟩, .slice none 0 0] 37 (0, 0)) := by
    rw [hgrow.block _ (by simp; omega) (by simp [Value.ownBlock]), first_alloc]
  have hbel : Below w.heap.size w w2 := hW.grown hgrow (by simp; omega) (fun j hj => by simp [Value.ownBlock] at hj; omega)
  have hg1 := hown.lt g1 rfl
  obtain ⟨z0, r0, r1, f0, f1⟩ := two_cells hres
  have hown' := Lib.hid hown
  have hbel' := Lib.hid hbel
  clear hown hgrow hat hlt hW hres hbel
  go_wp2_with fail
  refine bodyPost_ret (v := .agg #[.string ⟨#[]⟩, .slice (some ⟨g1, 0, none⟩) (1 + ps.length) cap]) (by simp [results, Try.results60, go_sem, r0, r1]) rfl ?_
  have hbel := hbel'.out
  have hsame : ∀ (W : World), (∀ j, j ≠ w.heap.size → W.heap[j]? = w2.heap[j]?) → W.heap.size = w2.heap.size → TC W (DN D w.heap.size W) (.node (.atom h :: ps)) ⟨#[]⟩ (some ⟨g1, 0, none⟩) (1 + ps.length) cap := by
    intro W hj hs
    refine ⟨rfl, by simp; omega, g1, _, rfl, .inr ⟨by omega, by omega⟩, ⟨_, _, _, _, _, rfl, ⟨hh, rfl, rfl, rfl, rfl⟩, Kids.keep (fun g' hg' => ?_) (fun g' hg' => .inl hg') _ _ hk'.out⟩, fun j u hu => ?_⟩
    · rw [hj g' (by have := hD'.out g' hg'; omega), hbel.block g' (hD'.out g' hg')]
    · have h1 := hown'.out.cells (g := g1) rfl j u hu
      have e : ({ block := g1, off := 0, spot := none } : Addr).add j = ⟨g1, j, none⟩ := by unfold Addr.add; split <;> simp_all
      rw [e] at h1
      exact (World.cell?_of_block (a := ⟨g1, j, none⟩) (hj g1 (by omega))).trans h1
  exact ⟨_, _, _, _, rfl, hsame _ (fun j hj => same_set w2 w.heap.size _ _ j hj) (by simp), (by repeat (with_reducible first | exact hbel | exact Below.refl _ _ | refine Below.drew ?_ | refine Below.drewN ?_ _ | refine Below.alloc ?_ (by first | (simp; done) | (simp; omega) | omega | (have := Below.size hbel; simp; omega) | (have := Below.size hbel; omega)) _ | refine Below.setCell ?_ (by first | (simp; done) | (simp; omega) | omega) _))⟩

theorem list2 (h : Bs) (hh : h ≠ []) (x y : T) {D : Nat → Prop} {w : World} {u1 u2 : ByteArray} {v1 v2 : Option Addr} {m1 d1 m2 d2 : Nat} (hD : ∀ g, D g → g < w.heap.size) (tx : TC w D x u1 v1 m1 d1) (ty : TC w D y u2 v2 m2 d2) :
    Calls Try.prog 60 #[.string ⟨h.toArray⟩, .slice (some ⟨w.heap.size, 0, none⟩) 2 2] (w.alloc (.cells #[.string u1, .slice v1 m1 d1, .string u2, .slice v2 m2 d2] 37))
      (TreeRet D (.node [.atom h, x, y]) (w.alloc (.cells #[.string u1, .slice v1 m1 d1, .string u2, .slice v2 m2 d2] 37))) := by
  have hb : Below w.heap.size w (w.alloc (.cells #[.string u1, .slice v1 m1 d1, .string u2, .slice v2 m2 d2] 37)) := (Below.refl _ _).alloc (Nat.le_refl _) _
  exact l1List_any h hh [x, y] [.string u1, .slice v1 m1 d1, .string u2, .slice v2 m2 d2] w.heap.size 2 _ D ⟨_, _, _, _, _, rfl, tx.below hb hD, _, _, _, _, _, rfl, ty.below hb hD, rfl⟩
    (fun j u hu => block_cells (heap_alloc_new _ _) j u hu) (fun g hg => by have := hD g hg; simp; omega) (by simp) (by simp) (by simp)
theorem list1 (h : Bs) (hh : h ≠ []) (x : T) {D : Nat → Prop} {w : World} {u1 : ByteArray} {v1 : Option Addr} {m1 d1 : Nat} (hD : ∀ g, D g → g < w.heap.size) (tx : TC w D x u1 v1 m1 d1) :
    Calls Try.prog 60 #[.string ⟨h.toArray⟩, .slice (some ⟨w.heap.size, 0, none⟩) 1 1] (w.alloc (.cells #[.string u1, .slice v1 m1 d1] 37))
      (TreeRet D (.node [.atom h, x]) (w.alloc (.cells #[.string u1, .slice v1 m1 d1] 37))) := by
  have hb : Below w.heap.size w (w.alloc (.cells #[.string u1, .slice v1 m1 d1] 37)) := (Below.refl _ _).alloc (Nat.le_refl _) _
  exact l1List_any h hh [x] [.string u1, .slice v1 m1 d1] w.heap.size 1 _ D ⟨_, _, _, _, _, rfl, tx.below hb hD, rfl⟩
    (fun j u hu => block_cells (heap_alloc_new _ _) j u hu) (fun g hg => by have := hD g hg; simp; omega) (by simp) (by simp) (by simp)

/-- What a call that hands back a tree asks: the tree that came is there. -/
def DT (f : F) : Prop := ∀ (w : World) (D : Nat → Prop) (a : ByteArray) (p : Option Addr) (n c : Nat), TC w D f.tree a p n c → (∀ g, D g → g < w.heap.size) →
  Calls Try.prog 44 #[.agg #[.string a, .slice p n c]] w (TreeRet D f.dual.tree w)

theorem ldual_lt (s : Bs) : DT (.lt s) := by
  intro w D a p n c ht hD
  rw [F.tree, TC] at ht
  obtain ⟨hs, rfl, rfl, rfl, rfl⟩ := ht
  go_enter Try.func44, Try.ntmps44
  go_wp2_with fail
  refine (head_atom s hs _).mono ?_
  rintro e w1 ⟨rfl, hb1⟩
  have hsb := sb_step (sb_alloc (sb_alloc (sb_refl w w.heap.size) _) _) hb1
  obtain ⟨z0, b0, b1, -, -⟩ := two_cells ((hb1.block w.heap.size (by simp; omega)).trans (first_alloc w _ _))
  obtain ⟨z1, r0, r1, f0, f1⟩ := two_cells ((hb1.block (w.heap.size + 1) (by simp)).trans (second_alloc w _ _))
  have hbel' := Lib.hid (below_step (((Below.refl _ _).alloc (Nat.le_refl _) _).alloc (by simp) _ : Below w.heap.size w ((w.alloc _).alloc _)) (by simp) hb1)
  clear hb1 hsb
  go_wp2_with fail
  refine bodyPost_ret (v := .agg #[.string ⟨s.toArray⟩, .slice none 0 0]) (by simp [results, Try.results44, go_sem, r0, r1]) rfl ?_
  have hbel := hbel'.out
  exact ⟨_, _, _, _, rfl, ⟨hs, rfl, rfl, rfl, rfl⟩, (by repeat (with_reducible first | exact hbel | exact Below.refl _ _ | refine Below.drew ?_ | refine Below.drewN ?_ _ | refine Below.alloc ?_ (by first | (simp; done) | (simp; omega) | omega | (have := Below.size hbel; simp; omega) | (have := Below.size hbel; omega)) _ | refine Below.setCell ?_ (by first | (simp; done) | (simp; omega) | omega) _))⟩

set_option maxRecDepth 100000 in
set_option maxHeartbeats 1000000 in
theorem ldual_an (a b : F) (ha : Hid (DT a)) (hb : Hid (DT b)) (w : World) (D : Nat → Prop) (s : ByteArray) (p : Option Addr) (n c : Nat)
    (ht : TC w D (.node [.atom [42], a.tree, b.tree]) s p n c) (hD : ∀ g, D g → g < w.heap.size) :
    Calls Try.prog 44 #[.agg #[.string s, .slice p n c]] w (TreeRet D (.node [.atom [43], a.dual.tree, b.dual.tree]) w) := by
  obtain ⟨x0, hx0, hcall⟩ := head_node ht hD
  obtain ⟨rfl, hn, g, rfl, hg, hp⟩ := ht.part
  have hn' : n = 3 := hn
  subst hn'
  obtain ⟨a1, p1, n1, c1, y0, y1, t1⟩ := hp 1 a.tree rfl
  obtain ⟨a2, p2, n2, c2, q0, q1, t2⟩ := hp 2 b.tree rfl
  have hgw := hD g hg
  have h42 : (x0.toList == [42]) = true := by rw [hx0]; rfl
  simp only [Nat.one_mul, Nat.reduceMul, Nat.reduceAdd] at y0 y1 q0 q1
  have hcall' := Lib.hid hcall
  have t1' := Lib.hid t1
  have t2' := Lib.hid t2
  have hD' := Lib.hid hD
  clear hcall hp t1 t2 hD hx0 ht hg hn
  go_enter Try.func44, Try.ntmps44
  go_wp2_with fail
  refine (hcall'.out _ (by repeat (with_reducible first | exact hbel | exact Below.refl _ _ | refine Below.drew ?_ | refine Below.drewN ?_ _ | refine Below.alloc ?_ (by first | (simp; done) | (simp; omega) | omega | (have := Below.size hbel; simp; omega) | (have := Below.size hbel; omega)) _ | refine Below.setCell ?_ (by first | (simp; done) | (simp; omega) | omega) _))).mono ?_
  rintro e w0 ⟨rfl, hb0⟩
  have hw0 := Lib.hid (below_step (((Below.refl _ _).alloc (Nat.le_refl _) _).alloc (by simp) _ : Below w.heap.size w ((w.alloc _).alloc _)) (by simp) hb0)
  have hbx := (hb0.block w.heap.size (by simp; omega)).trans (first_alloc w _ _)
  have hrx := (hb0.block (w.heap.size + 1) (by simp)).trans (second_alloc w _ _)
  obtain ⟨z0, b0, b1, -, -⟩ := two_cells hbx
  obtain ⟨z1, r0, r1, f0, f1⟩ := two_cells hrx
  have hS : Hid (∀ W', SB w0 (w.heap.size + 1) W' → W'.cell? ⟨w.heap.size, 1, none⟩ = some (.slice (some ⟨g, 0, none⟩) 3 c) ∧ W'.cell? ⟨g, 2, none⟩ = some (.string a1) ∧ W'.cell? ⟨g, 3, none⟩ = some (.slice p1 n1 c1) ∧
      W'.cell? ⟨g, 4, none⟩ = some (.string a2) ∧ W'.cell? ⟨g, 5, none⟩ = some (.slice p2 n2 c2)) := by
    intro W' h
    have hc : ∀ o, W'.cell? ⟨g, o, none⟩ = w.cell? ⟨g, o, none⟩ := fun o => (h.cell (by omega) (by omega)).trans (hw0.out.cell (p := ⟨g, o, none⟩) hgw)
    exact ⟨(h.cell z0 (by omega)).trans b1, (hc 2).trans y0, (hc 3).trans y1, (hc 4).trans q0, (hc 5).trans q1⟩
  have hA : Hid (∀ W', SB w0 (w.heap.size + 1) W' → Calls Try.prog 44 #[.agg #[.string a1, .slice p1 n1 c1]] W' (TreeRet D a.dual.tree W')) := fun W' h =>
    ha.out W' D a1 p1 n1 c1 (TC.keep (fun g hg => (h.block g (by have := hD'.out g hg; omega) (by have := hD'.out g hg; omega)).trans (hw0.out.block g (hD'.out g hg))) (fun _ h => h) _ _ _ _ _ t1'.out) (fun g hg => by have := hD'.out g hg; have := h.size; omega)
  have hB : Hid (∀ W', SB w0 (w.heap.size + 1) W' → Calls Try.prog 44 #[.agg #[.string a2, .slice p2 n2 c2]] W' (TreeRet D b.dual.tree W')) := fun W' h =>
    hb.out W' D a2 p2 n2 c2 (TC.keep (fun g hg => (h.block g (by have := hD'.out g hg; omega) (by have := hD'.out g hg; omega)).trans (hw0.out.block g (hD'.out g hg))) (fun _ h => h) _ _ _ _ _ t2'.out) (fun g hg => by have := hD'.out g hg; have := h.size; omega)
  have hR : Hid (∀ W', Below w0.heap.size w0 W' → w.heap.size + 1 < W'.heap.size ∧ W'.cell? ⟨w.heap.size + 1, 0, none⟩ = some (.string ⟨#[]⟩) ∧ W'.cell? ⟨w.heap.size + 1, 1, none⟩ = some (.slice none 0 0) ∧
      W'.frozen? ⟨w.heap.size + 1, 0, none⟩ = false ∧ W'.frozen? ⟨w.heap.size + 1, 1, none⟩ = false) := fun W' h => two_cells ((h.block _ z1).trans hrx)
  have hDw : ∀ g, D g → g < w0.heap.size := fun g hg => by have := hD'.out g hg; omega
  have hDw' := Lib.hid hDw
  clear hb0 hbx hrx hDw
  go_wp2_with fail
  go_region_held3 (fun W' => W'.cell? ⟨w.heap.size, 1, none⟩ = some (.slice (some ⟨g, 0, none⟩) 3 c) ∧ W'.cell? ⟨g, 2, none⟩ = some (.string a1) ∧ W'.cell? ⟨g, 3, none⟩ = some (.slice p1 n1 c1) ∧
      W'.cell? ⟨g, 4, none⟩ = some (.string a2) ∧ W'.cell? ⟨g, 5, none⟩ = some (.slice p2 n2 c2))
    (first | exact hS.out _ (by repeat (with_reducible first | exact sb_refl _ _ | exact hsb | refine sb_drew ?_ | refine sb_alloc ?_ _ | refine sb_set ?_ _ _ | refine sb_step ?_ hb1 | refine sb_step ?_ hb2 | refine sb_step ?_ hb3 | refine sb_step ?_ hb4)))
    (first
      | (go_at_call_of 44 a1; refine Calls.mono (hA.out _ (by repeat (with_reducible first | exact sb_refl _ _ | exact hsb | refine sb_drew ?_ | refine sb_alloc ?_ _ | refine sb_set ?_ _ _ | refine sb_step ?_ hb1 | refine sb_step ?_ hb2 | refine sb_step ?_ hb3 | refine sb_step ?_ hb4))) ?_; rintro e w1 ⟨u1, v1, m1, d1, rfl, tc1, hb1⟩)
      | (go_at_call_of 44 a2; refine Calls.mono (hB.out _ (by repeat (with_reducible first | exact sb_refl _ _ | exact hsb | refine sb_drew ?_ | refine sb_alloc ?_ _ | refine sb_set ?_ _ _ | refine sb_step ?_ hb1 | refine sb_step ?_ hb2 | refine sb_step ?_ hb3 | refine sb_step ?_ hb4))) ?_; rintro e w2 ⟨u2, v2, m2, d2, rfl, tc2, hb2⟩)
      | (go_at_call 60; (first | (refine Calls.mono (list2 [43] (by simp) a.dual.tree b.dual.tree (dn_lt (lo := w0.heap.size) hDw'.out (by repeat (with_reducible first | exact Below.refl _ _ | exact hbb | refine Below.drew ?_ | refine bb_alloc ?_ _ | refine below_step ?_ (Nat.le_refl _) hb1 | refine below_step ?_ (Nat.le_refl _) hb2 | refine below_step ?_ (Nat.le_refl _) hb3 | refine below_step ?_ (Nat.le_refl _) hb4))) (tc1.dn (Below.size (B := w0.heap.size) (by repeat (with_reducible first | exact Below.refl _ _ | exact hbb | refine Below.drew ?_ | refine bb_alloc ?_ _ | refine below_step ?_ (Nat.le_refl _) hb1 | refine below_step ?_ (Nat.le_refl _) hb2 | refine below_step ?_ (Nat.le_refl _) hb3 | refine below_step ?_ (Nat.le_refl _) hb4))) (dn_ltD hDw'.out (by repeat (with_reducible first | exact Below.refl _ _ | exact hbb | refine Below.drew ?_ | refine bb_alloc ?_ _ | refine below_step ?_ (Nat.le_refl _) hb1 | refine below_step ?_ (Nat.le_refl _) hb2 | refine below_step ?_ (Nat.le_refl _) hb3 | refine below_step ?_ (Nat.le_refl _) hb4))) hb2) (tc2.dn (Below.size (B := w0.heap.size) (by repeat (with_reducible first | exact Below.refl _ _ | exact hbb | refine Below.drew ?_ | refine bb_alloc ?_ _ | refine below_step ?_ (Nat.le_refl _) hb1 | refine below_step ?_ (Nat.le_refl _) hb2 | refine below_step ?_ (Nat.le_refl _) hb3 | refine below_step ?_ (Nat.le_refl _) hb4))) (dn_ltD hDw'.out (by repeat (with_reducible first | exact Below.refl _ _ | exact hbb | refine Below.drew ?_ | refine bb_alloc ?_ _ | refine below_step ?_ (Nat.le_refl _) hb1 | refine below_step ?_ (Nat.le_refl _) hb2 | refine below_step ?_ (Nat.le_refl _) hb3 | refine below_step ?_ (Nat.le_refl _) hb4))) (Below.refl _ _))) ?_) | (refine Calls.mono (list2 [43] (by simp) a.dual.tree b.dual.tree (dn_lt (lo := w0.heap.size) hDw'.out (by repeat (with_reducible first | exact Below.refl _ _ | exact hbb | refine Below.drew ?_ | refine bb_alloc ?_ _ | refine below_step ?_ (Nat.le_refl _) hb1 | refine below_step ?_ (Nat.le_refl _) hb2 | refine below_step ?_ (Nat.le_refl _) hb3 | refine below_step ?_ (Nat.le_refl _) hb4))) (tc1.dn (Below.size (B := w0.heap.size) (by repeat (with_reducible first | exact Below.refl _ _ | exact hbb | refine Below.drew ?_ | refine bb_alloc ?_ _ | refine below_step ?_ (Nat.le_refl _) hb1 | refine below_step ?_ (Nat.le_refl _) hb2 | refine below_step ?_ (Nat.le_refl _) hb3 | refine below_step ?_ (Nat.le_refl _) hb4))) (dn_ltD hDw'.out (by repeat (with_reducible first | exact Below.refl _ _ | exact hbb | refine Below.drew ?_ | refine bb_alloc ?_ _ | refine below_step ?_ (Nat.le_refl _) hb1 | refine below_step ?_ (Nat.le_refl _) hb2 | refine below_step ?_ (Nat.le_refl _) hb3 | refine below_step ?_ (Nat.le_refl _) hb4))) (Below.refl _ _)) (tc2.dn (Below.size (B := w0.heap.size) (by repeat (with_reducible first | exact Below.refl _ _ | exact hbb | refine Below.drew ?_ | refine bb_alloc ?_ _ | refine below_step ?_ (Nat.le_refl _) hb1 | refine below_step ?_ (Nat.le_refl _) hb2 | refine below_step ?_ (Nat.le_refl _) hb3 | refine below_step ?_ (Nat.le_refl _) hb4))) (dn_ltD hDw'.out (by repeat (with_reducible first | exact Below.refl _ _ | exact hbb | refine Below.drew ?_ | refine bb_alloc ?_ _ | refine below_step ?_ (Nat.le_refl _) hb1 | refine below_step ?_ (Nat.le_refl _) hb2 | refine below_step ?_ (Nat.le_refl _) hb3 | refine below_step ?_ (Nat.le_refl _) hb4))) hb1)) ?_)); rintro e w3 ⟨u3, v3, m3, d3, rfl, tc3, hb3⟩; obtain ⟨e0, e1, e2, e3, e4⟩ := hR.out w3 (by repeat (with_reducible first | exact Below.refl _ _ | exact hbb | refine Below.drew ?_ | refine bb_alloc ?_ _ | refine below_step ?_ (Nat.le_refl _) hb1 | refine below_step ?_ (Nat.le_refl _) hb2 | refine below_step ?_ (Nat.le_refl _) hb3 | refine below_step ?_ (Nat.le_refl _) hb4))))
  go_wp2_with fail
  refine bodyPost_ret (v := .agg #[.string u3, .slice v3 m3 d3]) (by simp [results, Try.results44, go_sem, e1, e2]) rfl ?_
  have hbel : Below w.heap.size w w3 := below_step hw0.out (Nat.le_refl _) ((by repeat (with_reducible first | exact Below.refl _ _ | exact hbb | refine Below.drew ?_ | refine bb_alloc ?_ _ | refine below_step ?_ (Nat.le_refl _) hb1 | refine below_step ?_ (Nat.le_refl _) hb2 | refine below_step ?_ (Nat.le_refl _) hb3 | refine below_step ?_ (Nat.le_refl _) hb4)) : Below w0.heap.size w0 w3)
  have s1 := hb1.size
  have s2 := hb2.size
  have s3 := hb3.size
  simp at s1 s2 s3
  refine ⟨_, _, _, _, rfl, TC.keep (fun g' hg' => ?_) (fun g' hg' => ?_) _ _ _ _ _ tc3, (by repeat (with_reducible first | exact hbel | exact Below.refl _ _ | refine Below.drew ?_ | refine Below.drewN ?_ _ | refine Below.alloc ?_ (by first | (simp; done) | (simp; omega) | omega | (have := Below.size hbel; simp; omega) | (have := Below.size hbel; omega)) _ | refine Below.setCell ?_ (by first | (simp; done) | (simp; omega) | omega) _))⟩
  · refine same_set _ _ _ _ _ ?_
    rcases hg' with (hg' | hg') | hg'
    · have := hD'.out g' hg'; omega
    · omega
    · simp at hg'; omega
  · rcases hg' with (hg' | hg') | hg'
    · exact .inl hg'
    · exact .inr ⟨by omega, by simp; omega⟩
    · simp at hg'; exact .inr ⟨by omega, by simp; omega⟩


set_option maxRecDepth 100000 in
set_option maxHeartbeats 1000000 in
theorem ldual_or (a b : F) (ha : Hid (DT a)) (hb : Hid (DT b)) (w : World) (D : Nat → Prop) (s : ByteArray) (p : Option Addr) (n c : Nat)
    (ht : TC w D (.node [.atom [43], a.tree, b.tree]) s p n c) (hD : ∀ g, D g → g < w.heap.size) :
    Calls Try.prog 44 #[.agg #[.string s, .slice p n c]] w (TreeRet D (.node [.atom [42], a.dual.tree, b.dual.tree]) w) := by
  obtain ⟨x0, hx0, hcall⟩ := head_node ht hD
  obtain ⟨rfl, hn, g, rfl, hg, hp⟩ := ht.part
  have hn' : n = 3 := hn
  subst hn'
  obtain ⟨a1, p1, n1, c1, y0, y1, t1⟩ := hp 1 a.tree rfl
  obtain ⟨a2, p2, n2, c2, q0, q1, t2⟩ := hp 2 b.tree rfl
  have hgw := hD g hg
  have h42 : (x0.toList == [42]) = false := by rw [hx0]; rfl
  have h43 : (x0.toList == [43]) = true := by rw [hx0]; rfl
  simp only [Nat.one_mul, Nat.reduceMul, Nat.reduceAdd] at y0 y1 q0 q1
  have hcall' := Lib.hid hcall
  have t1' := Lib.hid t1
  have t2' := Lib.hid t2
  have hD' := Lib.hid hD
  clear hcall hp t1 t2 hD hx0 ht hg hn
  go_enter Try.func44, Try.ntmps44
  go_wp2_with fail
  refine (hcall'.out _ (by repeat (with_reducible first | exact hbel | exact Below.refl _ _ | refine Below.drew ?_ | refine Below.drewN ?_ _ | refine Below.alloc ?_ (by first | (simp; done) | (simp; omega) | omega | (have := Below.size hbel; simp; omega) | (have := Below.size hbel; omega)) _ | refine Below.setCell ?_ (by first | (simp; done) | (simp; omega) | omega) _))).mono ?_
  rintro e w0 ⟨rfl, hb0⟩
  have hw0 := Lib.hid (below_step (((Below.refl _ _).alloc (Nat.le_refl _) _).alloc (by simp) _ : Below w.heap.size w ((w.alloc _).alloc _)) (by simp) hb0)
  have hbx := (hb0.block w.heap.size (by simp; omega)).trans (first_alloc w _ _)
  have hrx := (hb0.block (w.heap.size + 1) (by simp)).trans (second_alloc w _ _)
  obtain ⟨z0, b0, b1, -, -⟩ := two_cells hbx
  obtain ⟨z1, r0, r1, f0, f1⟩ := two_cells hrx
  have hS : Hid (∀ W', SB w0 (w.heap.size + 1) W' → W'.cell? ⟨w.heap.size, 1, none⟩ = some (.slice (some ⟨g, 0, none⟩) 3 c) ∧ W'.cell? ⟨g, 2, none⟩ = some (.string a1) ∧ W'.cell? ⟨g, 3, none⟩ = some (.slice p1 n1 c1) ∧
      W'.cell? ⟨g, 4, none⟩ = some (.string a2) ∧ W'.cell? ⟨g, 5, none⟩ = some (.slice p2 n2 c2)) := by
    intro W' h
    have hc : ∀ o, W'.cell? ⟨g, o, none⟩ = w.cell? ⟨g, o, none⟩ := fun o => (h.cell (by omega) (by omega)).trans (hw0.out.cell (p := ⟨g, o, none⟩) hgw)
    exact ⟨(h.cell z0 (by omega)).trans b1, (hc 2).trans y0, (hc 3).trans y1, (hc 4).trans q0, (hc 5).trans q1⟩
  have hA : Hid (∀ W', SB w0 (w.heap.size + 1) W' → Calls Try.prog 44 #[.agg #[.string a1, .slice p1 n1 c1]] W' (TreeRet D a.dual.tree W')) := fun W' h =>
    ha.out W' D a1 p1 n1 c1 (TC.keep (fun g hg => (h.block g (by have := hD'.out g hg; omega) (by have := hD'.out g hg; omega)).trans (hw0.out.block g (hD'.out g hg))) (fun _ h => h) _ _ _ _ _ t1'.out) (fun g hg => by have := hD'.out g hg; have := h.size; omega)
  have hB : Hid (∀ W', SB w0 (w.heap.size + 1) W' → Calls Try.prog 44 #[.agg #[.string a2, .slice p2 n2 c2]] W' (TreeRet D b.dual.tree W')) := fun W' h =>
    hb.out W' D a2 p2 n2 c2 (TC.keep (fun g hg => (h.block g (by have := hD'.out g hg; omega) (by have := hD'.out g hg; omega)).trans (hw0.out.block g (hD'.out g hg))) (fun _ h => h) _ _ _ _ _ t2'.out) (fun g hg => by have := hD'.out g hg; have := h.size; omega)
  have hR : Hid (∀ W', Below w0.heap.size w0 W' → w.heap.size + 1 < W'.heap.size ∧ W'.cell? ⟨w.heap.size + 1, 0, none⟩ = some (.string ⟨#[]⟩) ∧ W'.cell? ⟨w.heap.size + 1, 1, none⟩ = some (.slice none 0 0) ∧
      W'.frozen? ⟨w.heap.size + 1, 0, none⟩ = false ∧ W'.frozen? ⟨w.heap.size + 1, 1, none⟩ = false) := fun W' h => two_cells ((h.block _ z1).trans hrx)
  have hDw : ∀ g, D g → g < w0.heap.size := fun g hg => by have := hD'.out g hg; omega
  have hDw' := Lib.hid hDw
  clear hb0 hbx hrx hDw
  go_wp2_with fail
  go_region_held3 (fun W' => W'.cell? ⟨w.heap.size, 1, none⟩ = some (.slice (some ⟨g, 0, none⟩) 3 c) ∧ W'.cell? ⟨g, 2, none⟩ = some (.string a1) ∧ W'.cell? ⟨g, 3, none⟩ = some (.slice p1 n1 c1) ∧
      W'.cell? ⟨g, 4, none⟩ = some (.string a2) ∧ W'.cell? ⟨g, 5, none⟩ = some (.slice p2 n2 c2))
    (first | exact hS.out _ (by repeat (with_reducible first | exact sb_refl _ _ | exact hsb | refine sb_drew ?_ | refine sb_alloc ?_ _ | refine sb_set ?_ _ _ | refine sb_step ?_ hb1 | refine sb_step ?_ hb2 | refine sb_step ?_ hb3 | refine sb_step ?_ hb4)))
    (first
      | (go_at_call_of 44 a1; refine Calls.mono (hA.out _ (by repeat (with_reducible first | exact sb_refl _ _ | exact hsb | refine sb_drew ?_ | refine sb_alloc ?_ _ | refine sb_set ?_ _ _ | refine sb_step ?_ hb1 | refine sb_step ?_ hb2 | refine sb_step ?_ hb3 | refine sb_step ?_ hb4))) ?_; rintro e w1 ⟨u1, v1, m1, d1, rfl, tc1, hb1⟩)
      | (go_at_call_of 44 a2; refine Calls.mono (hB.out _ (by repeat (with_reducible first | exact sb_refl _ _ | exact hsb | refine sb_drew ?_ | refine sb_alloc ?_ _ | refine sb_set ?_ _ _ | refine sb_step ?_ hb1 | refine sb_step ?_ hb2 | refine sb_step ?_ hb3 | refine sb_step ?_ hb4))) ?_; rintro e w2 ⟨u2, v2, m2, d2, rfl, tc2, hb2⟩)
      | (go_at_call 60; (first | (refine Calls.mono (list2 [42] (by simp) a.dual.tree b.dual.tree (dn_lt (lo := w0.heap.size) hDw'.out (by repeat (with_reducible first | exact Below.refl _ _ | exact hbb | refine Below.drew ?_ | refine bb_alloc ?_ _ | refine below_step ?_ (Nat.le_refl _) hb1 | refine below_step ?_ (Nat.le_refl _) hb2 | refine below_step ?_ (Nat.le_refl _) hb3 | refine below_step ?_ (Nat.le_refl _) hb4))) (tc1.dn (Below.size (B := w0.heap.size) (by repeat (with_reducible first | exact Below.refl _ _ | exact hbb | refine Below.drew ?_ | refine bb_alloc ?_ _ | refine below_step ?_ (Nat.le_refl _) hb1 | refine below_step ?_ (Nat.le_refl _) hb2 | refine below_step ?_ (Nat.le_refl _) hb3 | refine below_step ?_ (Nat.le_refl _) hb4))) (dn_ltD hDw'.out (by repeat (with_reducible first | exact Below.refl _ _ | exact hbb | refine Below.drew ?_ | refine bb_alloc ?_ _ | refine below_step ?_ (Nat.le_refl _) hb1 | refine below_step ?_ (Nat.le_refl _) hb2 | refine below_step ?_ (Nat.le_refl _) hb3 | refine below_step ?_ (Nat.le_refl _) hb4))) hb2) (tc2.dn (Below.size (B := w0.heap.size) (by repeat (with_reducible first | exact Below.refl _ _ | exact hbb | refine Below.drew ?_ | refine bb_alloc ?_ _ | refine below_step ?_ (Nat.le_refl _) hb1 | refine below_step ?_ (Nat.le_refl _) hb2 | refine below_step ?_ (Nat.le_refl _) hb3 | refine below_step ?_ (Nat.le_refl _) hb4))) (dn_ltD hDw'.out (by repeat (with_reducible first | exact Below.refl _ _ | exact hbb | refine Below.drew ?_ | refine bb_alloc ?_ _ | refine below_step ?_ (Nat.le_refl _) hb1 | refine below_step ?_ (Nat.le_refl _) hb2 | refine below_step ?_ (Nat.le_refl _) hb3 | refine below_step ?_ (Nat.le_refl _) hb4))) (Below.refl _ _))) ?_) | (refine Calls.mono (list2 [42] (by simp) a.dual.tree b.dual.tree (dn_lt (lo := w0.heap.size) hDw'.out (by repeat (with_reducible first | exact Below.refl _ _ | exact hbb | refine Below.drew ?_ | refine bb_alloc ?_ _ | refine below_step ?_ (Nat.le_refl _) hb1 | refine below_step ?_ (Nat.le_refl _) hb2 | refine below_step ?_ (Nat.le_refl _) hb3 | refine below_step ?_ (Nat.le_refl _) hb4))) (tc1.dn (Below.size (B := w0.heap.size) (by repeat (with_reducible first | exact Below.refl _ _ | exact hbb | refine Below.drew ?_ | refine bb_alloc ?_ _ | refine below_step ?_ (Nat.le_refl _) hb1 | refine below_step ?_ (Nat.le_refl _) hb2 | refine below_step ?_ (Nat.le_refl _) hb3 | refine below_step ?_ (Nat.le_refl _) hb4))) (dn_ltD hDw'.out (by repeat (with_reducible first | exact Below.refl _ _ | exact hbb | refine Below.drew ?_ | refine bb_alloc ?_ _ | refine below_step ?_ (Nat.le_refl _) hb1 | refine below_step ?_ (Nat.le_refl _) hb2 | refine below_step ?_ (Nat.le_refl _) hb3 | refine below_step ?_ (Nat.le_refl _) hb4))) (Below.refl _ _)) (tc2.dn (Below.size (B := w0.heap.size) (by repeat (with_reducible first | exact Below.refl _ _ | exact hbb | refine Below.drew ?_ | refine bb_alloc ?_ _ | refine below_step ?_ (Nat.le_refl _) hb1 | refine below_step ?_ (Nat.le_refl _) hb2 | refine below_step ?_ (Nat.le_refl _) hb3 | refine below_step ?_ (Nat.le_refl _) hb4))) (dn_ltD hDw'.out (by repeat (with_reducible first | exact Below.refl _ _ | exact hbb | refine Below.drew ?_ | refine bb_alloc ?_ _ | refine below_step ?_ (Nat.le_refl _) hb1 | refine below_step ?_ (Nat.le_refl _) hb2 | refine below_step ?_ (Nat.le_refl _) hb3 | refine below_step ?_ (Nat.le_refl _) hb4))) hb1)) ?_)); rintro e w3 ⟨u3, v3, m3, d3, rfl, tc3, hb3⟩; obtain ⟨e0, e1, e2, e3, e4⟩ := hR.out w3 (by repeat (with_reducible first | exact Below.refl _ _ | exact hbb | refine Below.drew ?_ | refine bb_alloc ?_ _ | refine below_step ?_ (Nat.le_refl _) hb1 | refine below_step ?_ (Nat.le_refl _) hb2 | refine below_step ?_ (Nat.le_refl _) hb3 | refine below_step ?_ (Nat.le_refl _) hb4))))
  go_wp2_with fail
  refine bodyPost_ret (v := .agg #[.string u3, .slice v3 m3 d3]) (by simp [results, Try.results44, go_sem, e1, e2]) rfl ?_
  have hbel : Below w.heap.size w w3 := below_step hw0.out (Nat.le_refl _) ((by repeat (with_reducible first | exact Below.refl _ _ | exact hbb | refine Below.drew ?_ | refine bb_alloc ?_ _ | refine below_step ?_ (Nat.le_refl _) hb1 | refine below_step ?_ (Nat.le_refl _) hb2 | refine below_step ?_ (Nat.le_refl _) hb3 | refine below_step ?_ (Nat.le_refl _) hb4)) : Below w0.heap.size w0 w3)
  have s1 := hb1.size
  have s2 := hb2.size
  have s3 := hb3.size
  simp at s1 s2 s3
  refine ⟨_, _, _, _, rfl, TC.keep (fun g' hg' => ?_) (fun g' hg' => ?_) _ _ _ _ _ tc3, (by repeat (with_reducible first | exact hbel | exact Below.refl _ _ | refine Below.drew ?_ | refine Below.drewN ?_ _ | refine Below.alloc ?_ (by first | (simp; done) | (simp; omega) | omega | (have := Below.size hbel; simp; omega) | (have := Below.size hbel; omega)) _ | refine Below.setCell ?_ (by first | (simp; done) | (simp; omega) | omega) _))⟩
  · refine same_set _ _ _ _ _ ?_
    rcases hg' with (hg' | hg') | hg'
    · have := hD'.out g' hg'; omega
    · omega
    · simp at hg'; omega
  · rcases hg' with (hg' | hg') | hg'
    · exact .inl hg'
    · exact .inr ⟨by omega, by simp; omega⟩
    · simp at hg'; exact .inr ⟨by omega, by simp; omega⟩



set_option maxRecDepth 100000 in
set_option maxHeartbeats 1000000 in
theorem ldual_no (a : F) (ha : Hid (DT a)) (w : World) (D : Nat → Prop) (s : ByteArray) (p : Option Addr) (n c : Nat)
    (ht : TC w D (.node [.atom [45], a.tree]) s p n c) (hD : ∀ g, D g → g < w.heap.size) :
    Calls Try.prog 44 #[.agg #[.string s, .slice p n c]] w (TreeRet D (.node [.atom [45], a.dual.tree]) w) := by
  obtain ⟨x0, hx0, hcall⟩ := head_node ht hD
  obtain ⟨rfl, hn, g, rfl, hg, hp⟩ := ht.part
  have hn' : n = 2 := hn
  subst hn'
  obtain ⟨a1, p1, n1, c1, y0, y1, t1⟩ := hp 1 a.tree rfl
  have hgw := hD g hg
  have h42 : (x0.toList == [42]) = false := by rw [hx0]; rfl
  have h43 : (x0.toList == [43]) = false := by rw [hx0]; rfl
  have h45 : (x0.toList == [45]) = true := by rw [hx0]; rfl
  simp only [Nat.one_mul, Nat.reduceAdd] at y0 y1
  have hcall' := Lib.hid hcall
  have t1' := Lib.hid t1
  have hD' := Lib.hid hD
  clear hcall hp t1 hD hx0 ht hg hn
  go_enter Try.func44, Try.ntmps44
  go_wp2_with fail
  refine (hcall'.out _ (by repeat (with_reducible first | exact hbel | exact Below.refl _ _ | refine Below.drew ?_ | refine Below.drewN ?_ _ | refine Below.alloc ?_ (by first | (simp; done) | (simp; omega) | omega | (have := Below.size hbel; simp; omega) | (have := Below.size hbel; omega)) _ | refine Below.setCell ?_ (by first | (simp; done) | (simp; omega) | omega) _))).mono ?_
  rintro e w0 ⟨rfl, hb0⟩
  have hw0 := Lib.hid (below_step (((Below.refl _ _).alloc (Nat.le_refl _) _).alloc (by simp) _ : Below w.heap.size w ((w.alloc _).alloc _)) (by simp) hb0)
  have hbx := (hb0.block w.heap.size (by simp; omega)).trans (first_alloc w _ _)
  have hrx := (hb0.block (w.heap.size + 1) (by simp)).trans (second_alloc w _ _)
  obtain ⟨z0, b0, b1, -, -⟩ := two_cells hbx
  obtain ⟨z1, -⟩ := two_cells hrx
  have y0' := (hw0.out.cell (p := ⟨g, 2, none⟩) hgw).trans y0
  have y1' := (hw0.out.cell (p := ⟨g, 3, none⟩) hgw).trans y1
  have hA : Hid (Calls Try.prog 44 #[.agg #[.string a1, .slice p1 n1 c1]] w0 (TreeRet D a.dual.tree w0)) :=
    ha.out w0 D a1 p1 n1 c1 (TC.keep (fun g hg => hw0.out.block g (hD'.out g hg)) (fun _ h => h) _ _ _ _ _ t1'.out) (fun g hg => by have := hD'.out g hg; omega)
  have hR : Hid (∀ W', Below w0.heap.size w0 W' → w.heap.size + 1 < W'.heap.size ∧ W'.cell? ⟨w.heap.size + 1, 0, none⟩ = some (.string ⟨#[]⟩) ∧ W'.cell? ⟨w.heap.size + 1, 1, none⟩ = some (.slice none 0 0) ∧
      W'.frozen? ⟨w.heap.size + 1, 0, none⟩ = false ∧ W'.frozen? ⟨w.heap.size + 1, 1, none⟩ = false) := fun W' h => two_cells ((h.block _ z1).trans hrx)
  have hDw : ∀ g, D g → g < w0.heap.size := fun g hg => by have := hD'.out g hg; omega
  have hDw' := Lib.hid hDw
  clear hb0 hbx hrx hDw y0 y1
  go_wp2_with fail
  refine hA.out.mono ?_
  rintro e w1 ⟨u1, v1, m1, d1, rfl, tc1, hb1⟩
  have tc1' := Lib.hid tc1
  clear tc1
  go_wp2_with fail
  refine Calls.mono (list1 [45] (by simp) a.dual.tree (dn_lt (lo := w0.heap.size) hDw'.out (by repeat (with_reducible first | exact Below.refl _ _ | exact hbb | refine Below.drew ?_ | refine bb_alloc ?_ _ | refine below_step ?_ (Nat.le_refl _) hb1 | refine below_step ?_ (Nat.le_refl _) hb2 | refine below_step ?_ (Nat.le_refl _) hb3 | refine below_step ?_ (Nat.le_refl _) hb4))) (tc1'.out.dn (Below.size (B := w0.heap.size) (by repeat (with_reducible first | exact Below.refl _ _ | exact hbb | refine Below.drew ?_ | refine bb_alloc ?_ _ | refine below_step ?_ (Nat.le_refl _) hb1 | refine below_step ?_ (Nat.le_refl _) hb2 | refine below_step ?_ (Nat.le_refl _) hb3 | refine below_step ?_ (Nat.le_refl _) hb4))) (dn_ltD hDw'.out (by repeat (with_reducible first | exact Below.refl _ _ | exact hbb | refine Below.drew ?_ | refine bb_alloc ?_ _ | refine below_step ?_ (Nat.le_refl _) hb1 | refine below_step ?_ (Nat.le_refl _) hb2 | refine below_step ?_ (Nat.le_refl _) hb3 | refine below_step ?_ (Nat.le_refl _) hb4))) (Below.refl _ _))) ?_
  rintro e w3 ⟨u3, v3, m3, d3, rfl, tc3, hb3⟩
  have tc3' := Lib.hid tc3
  obtain ⟨e0, e1, e2, e3, e4⟩ := hR.out w3 (by repeat (with_reducible first | exact Below.refl _ _ | exact hbb | refine Below.drew ?_ | refine bb_alloc ?_ _ | refine below_step ?_ (Nat.le_refl _) hb1 | refine below_step ?_ (Nat.le_refl _) hb2 | refine below_step ?_ (Nat.le_refl _) hb3 | refine below_step ?_ (Nat.le_refl _) hb4))
  clear tc3
  go_wp2_with fail
  refine bodyPost_ret (v := .agg #[.string u3, .slice v3 m3 d3]) (by simp [results, Try.results44, go_sem, e1, e2]) rfl ?_
  have hbel : Below w.heap.size w w3 := below_step hw0.out (Nat.le_refl _) ((by repeat (with_reducible first | exact Below.refl _ _ | exact hbb | refine Below.drew ?_ | refine bb_alloc ?_ _ | refine below_step ?_ (Nat.le_refl _) hb1 | refine below_step ?_ (Nat.le_refl _) hb2 | refine below_step ?_ (Nat.le_refl _) hb3 | refine below_step ?_ (Nat.le_refl _) hb4)) : Below w0.heap.size w0 w3)
  have s1 := hb1.size
  have s3 := hb3.size
  simp at s1 s3
  refine ⟨_, _, _, _, rfl, TC.keep (fun g' hg' => ?_) (fun g' hg' => ?_) _ _ _ _ _ tc3'.out, (by repeat (with_reducible first | exact hbel | exact Below.refl _ _ | refine Below.drew ?_ | refine Below.drewN ?_ _ | refine Below.alloc ?_ (by first | (simp; done) | (simp; omega) | omega | (have := Below.size hbel; simp; omega) | (have := Below.size hbel; omega)) _ | refine Below.setCell ?_ (by first | (simp; done) | (simp; omega) | omega) _))⟩
  · refine same_set _ _ _ _ _ ?_
    rcases hg' with (hg' | hg') | hg'
    · have := hD'.out g' hg'; omega
    · omega
    · simp at hg'; omega
  · rcases hg' with (hg' | hg') | hg'
    · exact .inl hg'
    · exact .inr ⟨by omega, by simp; omega⟩
    · simp at hg'; exact .inr ⟨by omega, by simp; omega⟩

theorem ldual_of : ∀ f : F, DT f
  | .lt s => ldual_lt s
  | .an a b => fun w D s p n c ht hD => ldual_an a b (ldual_of a) (ldual_of b) w D s p n c ht hD
  | .or a b => fun w D s p n c ht hD => ldual_or a b (ldual_of a) (ldual_of b) w D s p n c ht hD
  | .no a => fun w D s p n c ht hD => ldual_no a (ldual_of a) w D s p n c ht hD

end Go.Proofs.Ytmnppkmgohpmaaa
