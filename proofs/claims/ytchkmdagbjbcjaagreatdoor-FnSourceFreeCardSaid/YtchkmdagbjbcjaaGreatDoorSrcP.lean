/- spec.l6sPlain and impl.isPlain. -/
import Derived.Test.YtchkmdagbjbcjaaGreatDoorIsS
import Derived.Test.YtchkmdagbjbcjaaGreatDoorSrcT
namespace Go.Proofs.YtchkmdagbjbcjaaGreatDoor
set_option linter.unusedVariables false
open Go.RowKit
set_option maxRecDepth 100000

theorem pl_atom (s : Bs) (hs : s ≠ []) (w : World) : Calls Tryz.prog 24 #[.agg #[.string ⟨s.toArray⟩, .slice none 0 0]] w fun e w' => e = .returned (.bool true) ∧ Below w.heap.size w w' := by
  go_enter Tryz.func24, Tryz.ntmps24
  go_wp2_with fail
  refine (head_atom s hs _).mono ?_
  rintro e w0 ⟨rfl, hb0⟩
  obtain ⟨z0, b0, b1, -, -⟩ := two_cells ((hb0.block w.heap.size (by simp)).trans (heap_alloc_new w _))
  go_wp2_with fail
  refine wp_loop_rounds 1 ?_
  rw [rounds_succ]
  go_wp2_with fail
  go_ret
  exact ⟨rfl, below_step (by repeat (with_reducible first | exact hbel | exact Below.refl _ _ | refine Below.drew ?_ | refine Below.drewN ?_ _ | refine Below.alloc ?_ (by first | (simp; done) | (simp; omega) | omega | (have := Below.size hbel; simp; omega) | (have := Below.size hbel; omega)) _ | refine Below.setCell ?_ (by first | (simp; done) | (simp; omega) | omega) _)) (by simp) hb0⟩

theorem pl_no (h : Bs) (hh : h = [99, 97, 116, 99, 104] ∨ h = [116, 104, 114, 111, 119]) (ps : List T) (hx : headOf ps = h) (w : World) (D : Nat → Prop) (a : ByteArray) (p : Option Addr) (n c : Nat) (ht : TC w D (.node ps) a p n c) (hD : ∀ g, D g → g < w.heap.size) :
    Calls Tryz.prog 24 #[.agg #[.string a, .slice p n c]] w fun e w' => e = .returned (.bool false) ∧ Below w.heap.size w w' := by
  have hcall := Lib.hid (head_lit ht hD)
  rw [hx] at hcall
  clear ht hD hx
  rcases hh with rfl | rfl
  all_goals
    go_enter Tryz.func24, Tryz.ntmps24
    go_wp2_with fail
    refine (hcall.out _ (by repeat (with_reducible first | exact hbel | exact Below.refl _ _ | refine Below.drew ?_ | refine Below.drewN ?_ _ | refine Below.alloc ?_ (by first | (simp; done) | (simp; omega) | omega | (have := Below.size hbel; simp; omega) | (have := Below.size hbel; omega)) _ | refine Below.setCell ?_ (by first | (simp; done) | (simp; omega) | omega) _))).mono ?_
    rintro e w0 ⟨rfl, hb0⟩
    go_wp2_with fail
    go_ret
    exact ⟨rfl, below_step (by repeat (with_reducible first | exact hbel | exact Below.refl _ _ | refine Below.drew ?_ | refine Below.drewN ?_ _ | refine Below.alloc ?_ (by first | (simp; done) | (simp; omega) | omega | (have := Below.size hbel; simp; omega) | (have := Below.size hbel; omega)) _ | refine Below.setCell ?_ (by first | (simp; done) | (simp; omega) | omega) _)) (by simp) hb0⟩

theorem pl_three (h : Bs) (hh : h = [108, 97, 109] ∨ h = [97, 112, 112] ∨ h = [98, 111, 116, 104]) (x u v : T) (hx : atomOf x = h) (w : World) (D : Nat → Prop) (a : ByteArray) (p : Option Addr) (n c : Nat) (ht : TC w D (.node [x, u, v]) a p n c) (hD : ∀ g, D g → g < w.heap.size) (r r' : Bool)
    (hu : Hid (∀ (W : World) (a : ByteArray) (p : Option Addr) (n c : Nat), TC W D u a p n c → (∀ g, D g → g < W.heap.size) → Calls Tryz.prog 24 #[.agg #[.string a, .slice p n c]] W fun e w' => e = .returned (.bool r) ∧ Below W.heap.size W w'))
    (hv : Hid (∀ (W : World) (a : ByteArray) (p : Option Addr) (n c : Nat), TC W D v a p n c → (∀ g, D g → g < W.heap.size) → Calls Tryz.prog 24 #[.agg #[.string a, .slice p n c]] W fun e w' => e = .returned (.bool r') ∧ Below W.heap.size W w')) :
    Calls Tryz.prog 24 #[.agg #[.string a, .slice p n c]] w fun e w' => e = .returned (.bool (r && r')) ∧ Below w.heap.size w w' := by
  have hcall := Lib.hid (head_lit ht hD)
  rw [show headOf [x, u, v] = h from hx] at hcall
  obtain ⟨rfl, hn, g, rfl, hg, hp⟩ := ht.part
  have hn' : n = 3 := hn
  subst hn'
  obtain ⟨a1, p1, n1, c1, y0, y1, t1⟩ := hp 1 u rfl
  obtain ⟨a2, p2, n2, c2, q0, q1, t2⟩ := hp 2 v rfl
  have hgw := hD g hg
  simp only [Nat.one_mul, Nat.reduceMul, Nat.reduceAdd] at y0 y1 q0 q1
  have hA := Lib.hid (fun W (hW : Below w.heap.size w W) => hu.out W a1 p1 n1 c1 (t1.below hW hD) (fun g hg => Nat.lt_of_lt_of_le (hD g hg) hW.size))
  have hB := Lib.hid (fun W (hW : Below w.heap.size w W) => hv.out W a2 p2 n2 c2 (t2.below hW hD) (fun g hg => Nat.lt_of_lt_of_le (hD g hg) hW.size))
  clear hp hD ht hn hg t1 t2 hx hu hv
  rcases hh with rfl | rfl | rfl
  all_goals
    go_enter Tryz.func24, Tryz.ntmps24
    go_wp2_with fail
    refine (hcall.out _ (by repeat (with_reducible first | exact hbel | exact Below.refl _ _ | refine Below.drew ?_ | refine Below.drewN ?_ _ | refine Below.alloc ?_ (by first | (simp; done) | (simp; omega) | omega | (have := Below.size hbel; simp; omega) | (have := Below.size hbel; omega)) _ | refine Below.setCell ?_ (by first | (simp; done) | (simp; omega) | omega) _))).mono ?_
    rintro e w0 ⟨rfl, hb0⟩
    have hw0 := Lib.hid (below_step ((Below.refl _ _).alloc (Nat.le_refl _) _ : Below w.heap.size w (w.alloc _)) (by simp) hb0)
    obtain ⟨z0, b0, b1, -, -⟩ := two_cells ((hb0.block w.heap.size (by simp)).trans (heap_alloc_new w _))
    have y0' := (hw0.out.cell (p := ⟨g, 2, none⟩) hgw).trans y0
    have y1' := (hw0.out.cell (p := ⟨g, 3, none⟩) hgw).trans y1
    have q0' := (hw0.out.cell (p := ⟨g, 4, none⟩) hgw).trans q0
    have q1' := (hw0.out.cell (p := ⟨g, 5, none⟩) hgw).trans q1
    clear hb0 y0 y1 q0 q1
    go_wp2_with fail
    refine wp_loop_rounds 3 ?_
    rw [rounds_succ]
    go_wp2_with fail
    refine Calls.mono (hA.out _ hw0.out) ?_
    rintro e w1 ⟨rfl, hb1⟩
    have hw1 := Lib.hid (below_step hw0.out (Nat.le_refl _) hb1 : Below w.heap.size w w1)
    have z1 : w.heap.size < w1.heap.size := Nat.lt_of_lt_of_le z0 hb1.size
    have d1 := (hb1.cell (p := ⟨w.heap.size, 1, none⟩) z0).trans b1
    have q0'' := (hb1.cell (p := ⟨g, 4, none⟩) (Nat.lt_of_lt_of_le hgw hw0.out.size)).trans q0'
    have q1'' := (hb1.cell (p := ⟨g, 5, none⟩) (Nat.lt_of_lt_of_le hgw hw0.out.size)).trans q1'
    clear hb1 y0' y1' q0' q1' b0 b1
    cases r
    · go_wp2_with fail
      go_ret
      exact ⟨rfl, hw1.out⟩
    · go_wp2_with fail
      rw [rounds_succ]
      go_wp2_with fail
      refine Calls.mono (hB.out _ hw1.out) ?_
      rintro e w2 ⟨rfl, hb2⟩
      have d2 := (hb2.cell (p := ⟨w.heap.size, 1, none⟩) z1).trans d1
      cases r'
      · go_wp2_with fail
        go_ret
        exact ⟨rfl, below_step hw1.out (Nat.le_refl _) hb2⟩
      · go_wp2_with fail
        rw [rounds_succ]
        go_wp2_with fail
        go_ret
        exact ⟨rfl, below_step hw1.out (Nat.le_refl _) hb2⟩

theorem pl_two (h : Bs) (hh : h = [108, 101, 102, 116] ∨ h = [114, 105, 103, 104, 116]) (x u : T) (hx : atomOf x = h) (w : World) (D : Nat → Prop) (a : ByteArray) (p : Option Addr) (n c : Nat) (ht : TC w D (.node [x, u]) a p n c) (hD : ∀ g, D g → g < w.heap.size) (r : Bool)
    (hu : Hid (∀ (W : World) (a : ByteArray) (p : Option Addr) (n c : Nat), TC W D u a p n c → (∀ g, D g → g < W.heap.size) → Calls Tryz.prog 24 #[.agg #[.string a, .slice p n c]] W fun e w' => e = .returned (.bool r) ∧ Below W.heap.size W w')) :
    Calls Tryz.prog 24 #[.agg #[.string a, .slice p n c]] w fun e w' => e = .returned (.bool r) ∧ Below w.heap.size w w' := by
  have hcall := Lib.hid (head_lit ht hD)
  rw [show headOf [x, u] = h from hx] at hcall
  obtain ⟨rfl, hn, g, rfl, hg, hp⟩ := ht.part
  have hn' : n = 2 := hn
  subst hn'
  obtain ⟨a1, p1, n1, c1, y0, y1, t1⟩ := hp 1 u rfl
  have hgw := hD g hg
  simp only [Nat.one_mul, Nat.reduceAdd] at y0 y1
  have hA := Lib.hid (fun W (hW : Below w.heap.size w W) => hu.out W a1 p1 n1 c1 (t1.below hW hD) (fun g hg => Nat.lt_of_lt_of_le (hD g hg) hW.size))
  clear hp hD ht hn hg t1 hx hu
  rcases hh with rfl | rfl
  all_goals
    go_enter Tryz.func24, Tryz.ntmps24
    go_wp2_with fail
    refine (hcall.out _ (by repeat (with_reducible first | exact hbel | exact Below.refl _ _ | refine Below.drew ?_ | refine Below.drewN ?_ _ | refine Below.alloc ?_ (by first | (simp; done) | (simp; omega) | omega | (have := Below.size hbel; simp; omega) | (have := Below.size hbel; omega)) _ | refine Below.setCell ?_ (by first | (simp; done) | (simp; omega) | omega) _))).mono ?_
    rintro e w0 ⟨rfl, hb0⟩
    have hw0 := Lib.hid (below_step ((Below.refl _ _).alloc (Nat.le_refl _) _ : Below w.heap.size w (w.alloc _)) (by simp) hb0)
    obtain ⟨z0, b0, b1, -, -⟩ := two_cells ((hb0.block w.heap.size (by simp)).trans (heap_alloc_new w _))
    have y0' := (hw0.out.cell (p := ⟨g, 2, none⟩) hgw).trans y0
    have y1' := (hw0.out.cell (p := ⟨g, 3, none⟩) hgw).trans y1
    clear hb0 y0 y1
    go_wp2_with fail
    refine wp_loop_rounds 2 ?_
    rw [rounds_succ]
    go_wp2_with fail
    refine Calls.mono (hA.out _ hw0.out) ?_
    rintro e w1 ⟨rfl, hb1⟩
    have d1 := (hb1.cell (p := ⟨w.heap.size, 1, none⟩) z0).trans b1
    cases r
    · go_wp2_with fail
      go_ret
      exact ⟨rfl, below_step hw0.out (Nat.le_refl _) hb1⟩
    · go_wp2_with fail
      rw [rounds_succ]
      go_wp2_with fail
      go_ret
      exact ⟨rfl, below_step hw0.out (Nat.le_refl _) hb1⟩

theorem specPl_any : ∀ {m : Src}, m.ok = true → ∀ (w : World) (D : Nat → Prop) (a : ByteArray) (p : Option Addr) (n c : Nat), TC w D m.tree a p n c → (∀ g, D g → g < w.heap.size) →
    Calls Tryz.prog 24 #[.agg #[.string a, .slice p n c]] w fun e w' => e = .returned (.bool m.plain) ∧ Below w.heap.size w w'
  | .v s, hok, w, D, a, p, n, c, ht, hD => by
    rw [Src.tree, TC] at ht
    obtain ⟨hs, rfl, rfl, rfl, rfl⟩ := ht
    exact pl_atom s hs w
  | .nb h s m, hok, w, D, a, p, n, c, ht, hD => by
    rw [Src.ok, Bool.and_eq_true, Bool.and_eq_true] at hok
    have hh := hok.1.1
    simp only [isNb, Bool.or_eq_true, beq_iff_eq] at hh
    rw [Src.tree] at ht
    rcases hh with (rfl | rfl) | rfl
    · refine (pl_three lamB (.inl rfl) (.atom lamB) (.atom s) m.tree rfl w D a p n c ht hD true m.plain (Lib.hid fun W a p n c ht hD => ?_) (Lib.hid fun W a p n c ht hD => specPl_any hok.2 W D a p n c ht hD)).mono ?_
      · rw [TC] at ht
        obtain ⟨hs, rfl, rfl, rfl, rfl⟩ := ht
        exact pl_atom s hs W
      · rintro e w' ⟨rfl, hb⟩
        exact ⟨rfl, hb⟩
    · exact pl_no catchB (.inl rfl) _ rfl w D a p n c ht hD
    · exact pl_no throwB (.inr rfl) _ rfl w D a p n c ht hD
  | .n1 h m, hok, w, D, a, p, n, c, ht, hD => by
    rw [Src.ok, Bool.and_eq_true] at hok
    have hh := hok.1
    simp only [h1B, Bool.or_eq_true, beq_iff_eq] at hh
    rw [Src.tree] at ht
    exact pl_two h hh (.atom h) m.tree rfl w D a p n c ht hD m.plain (Lib.hid fun W a p n c ht hD => specPl_any hok.2 W D a p n c ht hD)
  | .n2 h m k, hok, w, D, a, p, n, c, ht, hD => by
    rw [Src.ok, Bool.and_eq_true, Bool.and_eq_true] at hok
    have hh := hok.1.1
    simp only [h2B, Bool.or_eq_true, beq_iff_eq] at hh
    rw [Src.tree] at ht
    exact pl_three h (.inr hh) (.atom h) m.tree k.tree rfl w D a p n c ht hD m.plain k.plain (Lib.hid fun W a p n c ht hD => specPl_any hok.1.2 W D a p n c ht hD) (Lib.hid fun W a p n c ht hD => specPl_any hok.2 W D a p n c ht hD)

/-! ### The program -/
def IPL (m : Src) : Prop := ∀ w : World, Calls Tryz.prog 23 #[.iface (sty m) (sv m)] w fun e w' => e = .returned (.bool m.plain) ∧ Below w.heap.size w w'

theorem ipl_v (c : UInt8) (d : Bs) : IPL (.v (c :: d)) := by
  intro w
  rw [show sty (.v (c :: d)) = 81 from rfl, show sv (.v (c :: d)) = .agg #[.int .u8 c.toNat, str d] from rfl, show (Src.v (c :: d)).plain = true from rfl]
  have mi := in_mention (.agg #[.int .u8 c.toNat, str d])
  have h1 := sa_mention_catch
  have h2 := sa_mention_throw
  go_enter Tryz.func23, Tryz.ntmps23
  go_wp2_with fail
  refine Calls.mono (inner_none _ _ _) ?_
  rintro e w1 ⟨rfl, hb1⟩
  go_wp2_with fail
  refine wp_loop_rounds 1 ?_
  rw [rounds_succ]
  go_wp2_with fail
  go_ret
  exact ⟨rfl, hb1⟩

theorem ipl_catch (v : Value) (w : World) : Calls Tryz.prog 23 #[.iface 87 v] w fun e w' => e = .returned (.bool false) ∧ Below w.heap.size w w' := by
  have h1 := sa_catch_catch
  have h2 := sa_catch_throw
  go_enter Tryz.func23, Tryz.ntmps23
  go_wp2_with fail
  go_ret
  exact ⟨rfl, (by repeat (with_reducible first | exact hbel | exact Below.refl _ _ | refine Below.drew ?_ | refine Below.drewN ?_ _ | refine Below.alloc ?_ (by first | (simp; done) | (simp; omega) | omega | (have := Below.size hbel; simp; omega) | (have := Below.size hbel; omega)) _ | refine Below.setCell ?_ (by first | (simp; done) | (simp; omega) | omega) _))⟩

theorem ipl_throw (v : Value) (w : World) : Calls Tryz.prog 23 #[.iface 89 v] w fun e w' => e = .returned (.bool false) ∧ Below w.heap.size w w' := by
  have h1 := sa_throw_catch
  have h2 := sa_throw_throw
  go_enter Tryz.func23, Tryz.ntmps23
  go_wp2_with fail
  go_ret
  exact ⟨rfl, (by repeat (with_reducible first | exact hbel | exact Below.refl _ _ | refine Below.drew ?_ | refine Below.drewN ?_ _ | refine Below.alloc ?_ (by first | (simp; done) | (simp; omega) | omega | (have := Below.size hbel; simp; omega) | (have := Below.size hbel; omega)) _ | refine Below.setCell ?_ (by first | (simp; done) | (simp; omega) | omega) _))⟩

theorem ipl_lambda (t : TypeId) (x : Value) (c : UInt8) (d : Bs) (r : Bool) (hc : Hid (∀ w, Calls Tryz.prog 23 #[.iface t x] w fun e w' => e = .returned (.bool r) ∧ Below w.heap.size w w')) (w : World) :
    Calls Tryz.prog 23 #[.iface 85 (.agg #[.int .u8 c.toNat, str d, .iface t x])] w fun e w' => e = .returned (.bool r) ∧ Below w.heap.size w w' := by
  have mi := in_lambda (.int .u8 c.toNat) (str d) (.iface t x)
  have h1 := sa_lambda_catch
  have h2 := sa_lambda_throw
  have hin := Lib.hid (fun w => inner_one t x w)
  go_enter Tryz.func23, Tryz.ntmps23
  go_wp2_with fail
  refine Calls.mono (hin.out _) ?_
  rintro e w1 ⟨g, rfl, hb1, hg, c0⟩
  go_wp2_with fail
  refine wp_loop_rounds 2 ?_
  rw [rounds_succ]
  go_wp2_with fail
  refine Calls.mono (hc.out _) ?_
  rintro e w2 ⟨rfl, hb2⟩
  cases r
  · go_wp2_with fail
    go_ret
    exact ⟨rfl, below_step hb1 (Nat.le_refl _) hb2⟩
  · go_wp2_with fail
    rw [rounds_succ]
    go_wp2_with fail
    go_ret
    exact ⟨rfl, below_step hb1 (Nat.le_refl _) hb2⟩

theorem ipl_leftPart (t : TypeId) (x : Value) (r : Bool) (hc : Hid (∀ w, Calls Tryz.prog 23 #[.iface t x] w fun e w' => e = .returned (.bool r) ∧ Below w.heap.size w w')) (w : World) :
    Calls Tryz.prog 23 #[.iface 125 (.agg #[.iface t x])] w fun e w' => e = .returned (.bool r) ∧ Below w.heap.size w w' := by
  have mi := in_leftPart (.iface t x)
  have h1 := sa_leftPart_catch
  have h2 := sa_leftPart_throw
  have hin := Lib.hid (fun w => inner_one t x w)
  go_enter Tryz.func23, Tryz.ntmps23
  go_wp2_with fail
  refine Calls.mono (hin.out _) ?_
  rintro e w1 ⟨g, rfl, hb1, hg, c0⟩
  go_wp2_with fail
  refine wp_loop_rounds 2 ?_
  rw [rounds_succ]
  go_wp2_with fail
  refine Calls.mono (hc.out _) ?_
  rintro e w2 ⟨rfl, hb2⟩
  cases r
  · go_wp2_with fail
    go_ret
    exact ⟨rfl, below_step hb1 (Nat.le_refl _) hb2⟩
  · go_wp2_with fail
    rw [rounds_succ]
    go_wp2_with fail
    go_ret
    exact ⟨rfl, below_step hb1 (Nat.le_refl _) hb2⟩

theorem ipl_rightPart (t : TypeId) (x : Value) (r : Bool) (hc : Hid (∀ w, Calls Tryz.prog 23 #[.iface t x] w fun e w' => e = .returned (.bool r) ∧ Below w.heap.size w w')) (w : World) :
    Calls Tryz.prog 23 #[.iface 126 (.agg #[.iface t x])] w fun e w' => e = .returned (.bool r) ∧ Below w.heap.size w w' := by
  have mi := in_rightPart (.iface t x)
  have h1 := sa_rightPart_catch
  have h2 := sa_rightPart_throw
  have hin := Lib.hid (fun w => inner_one t x w)
  go_enter Tryz.func23, Tryz.ntmps23
  go_wp2_with fail
  refine Calls.mono (hin.out _) ?_
  rintro e w1 ⟨g, rfl, hb1, hg, c0⟩
  go_wp2_with fail
  refine wp_loop_rounds 2 ?_
  rw [rounds_succ]
  go_wp2_with fail
  refine Calls.mono (hc.out _) ?_
  rintro e w2 ⟨rfl, hb2⟩
  cases r
  · go_wp2_with fail
    go_ret
    exact ⟨rfl, below_step hb1 (Nat.le_refl _) hb2⟩
  · go_wp2_with fail
    rw [rounds_succ]
    go_wp2_with fail
    go_ret
    exact ⟨rfl, below_step hb1 (Nat.le_refl _) hb2⟩

theorem ipl_application (t u : TypeId) (x y : Value) (r r' : Bool) (hc : Hid (∀ w, Calls Tryz.prog 23 #[.iface t x] w fun e w' => e = .returned (.bool r) ∧ Below w.heap.size w w')) (hd : Hid (∀ w, Calls Tryz.prog 23 #[.iface u y] w fun e w' => e = .returned (.bool r') ∧ Below w.heap.size w w')) (w : World) :
    Calls Tryz.prog 23 #[.iface 131 (.agg #[.iface t x, .iface u y])] w fun e w' => e = .returned (.bool (r && r')) ∧ Below w.heap.size w w' := by
  have mi := in_application (.iface t x) (.iface u y)
  have h1 := sa_application_catch
  have h2 := sa_application_throw
  have hin := Lib.hid (fun w => inner_two t u x y w)
  go_enter Tryz.func23, Tryz.ntmps23
  go_wp2_with fail
  refine Calls.mono (hin.out _) ?_
  rintro e w1 ⟨g, rfl, hb1, hg, c0, c1⟩
  go_wp2_with fail
  refine wp_loop_rounds 3 ?_
  rw [rounds_succ]
  go_wp2_with fail
  refine Calls.mono (hc.out _) ?_
  rintro e w2 ⟨rfl, hb2⟩
  have c1' := (hb2.cell (p := ⟨g, 1, none⟩) hg).trans c1
  cases r
  · go_wp2_with fail
    go_ret
    exact ⟨rfl, below_step hb1 (Nat.le_refl _) hb2⟩
  · go_wp2_with fail
    rw [rounds_succ]
    go_wp2_with fail
    refine Calls.mono (hd.out _) ?_
    rintro e w3 ⟨rfl, hb3⟩
    have hb13 := Lib.hid (below_step (below_step hb1 (Nat.le_refl _) hb2) (Nat.le_refl _) hb3)
    cases r'
    · go_wp2_with fail
      go_ret
      exact ⟨rfl, hb13.out⟩
    · go_wp2_with fail
      rw [rounds_succ]
      go_wp2_with fail
      go_ret
      exact ⟨rfl, hb13.out⟩

theorem ipl_both (t u : TypeId) (x y : Value) (r r' : Bool) (hc : Hid (∀ w, Calls Tryz.prog 23 #[.iface t x] w fun e w' => e = .returned (.bool r) ∧ Below w.heap.size w w')) (hd : Hid (∀ w, Calls Tryz.prog 23 #[.iface u y] w fun e w' => e = .returned (.bool r') ∧ Below w.heap.size w w')) (w : World) :
    Calls Tryz.prog 23 #[.iface 132 (.agg #[.iface t x, .iface u y])] w fun e w' => e = .returned (.bool (r && r')) ∧ Below w.heap.size w w' := by
  have mi := in_both (.iface t x) (.iface u y)
  have h1 := sa_both_catch
  have h2 := sa_both_throw
  have hin := Lib.hid (fun w => inner_two t u x y w)
  go_enter Tryz.func23, Tryz.ntmps23
  go_wp2_with fail
  refine Calls.mono (hin.out _) ?_
  rintro e w1 ⟨g, rfl, hb1, hg, c0, c1⟩
  go_wp2_with fail
  refine wp_loop_rounds 3 ?_
  rw [rounds_succ]
  go_wp2_with fail
  refine Calls.mono (hc.out _) ?_
  rintro e w2 ⟨rfl, hb2⟩
  have c1' := (hb2.cell (p := ⟨g, 1, none⟩) hg).trans c1
  cases r
  · go_wp2_with fail
    go_ret
    exact ⟨rfl, below_step hb1 (Nat.le_refl _) hb2⟩
  · go_wp2_with fail
    rw [rounds_succ]
    go_wp2_with fail
    refine Calls.mono (hd.out _) ?_
    rintro e w3 ⟨rfl, hb3⟩
    have hb13 := Lib.hid (below_step (below_step hb1 (Nat.le_refl _) hb2) (Nat.le_refl _) hb3)
    cases r'
    · go_wp2_with fail
      go_ret
      exact ⟨rfl, hb13.out⟩
    · go_wp2_with fail
      rw [rounds_succ]
      go_wp2_with fail
      go_ret
      exact ⟨rfl, hb13.out⟩

theorem ipl_any : ∀ {m : Src}, m.ok = true → IPL m
  | .v s, h => by
    obtain ⟨c, d, rfl⟩ : ∃ c d, s = c :: d := by
      cases s with
      | nil => cases h
      | cons c d => exact ⟨c, d, rfl⟩
    exact ipl_v c d
  | .nb h s m, hok => fun w => by
    rw [Src.ok, Bool.and_eq_true, Bool.and_eq_true] at hok
    obtain ⟨c, d, rfl⟩ : ∃ c d, s = c :: d := by
      cases s with
      | nil => exact absurd rfl (hnB_ne hok.1.2)
      | cons c d => exact ⟨c, d, rfl⟩
    have hh := hok.1.1
    simp only [isNb, Bool.or_eq_true, beq_iff_eq] at hh
    rcases hh with (rfl | rfl) | rfl
    · exact ipl_lambda (sty m) (sv m) c d m.plain (Lib.hid fun w => ipl_any hok.2 w) w
    · exact ipl_catch _ w
    · exact ipl_throw _ w
  | .n1 h m, hok => fun w => by
    rw [Src.ok, Bool.and_eq_true] at hok
    have ih := Lib.hid (fun w => ipl_any hok.2 w)
    have hh := hok.1
    simp only [h1B, Bool.or_eq_true, beq_iff_eq] at hh
    rcases hh with rfl | rfl
    · exact ipl_leftPart (sty m) (sv m) m.plain ih w
    · exact ipl_rightPart (sty m) (sv m) m.plain ih w
  | .n2 h m n, hok => fun w => by
    rw [Src.ok, Bool.and_eq_true, Bool.and_eq_true] at hok
    have ih := Lib.hid (fun w => ipl_any hok.1.2 w)
    have ih2 := Lib.hid (fun w => ipl_any hok.2 w)
    have hh := hok.1.1
    simp only [h2B, Bool.or_eq_true, beq_iff_eq] at hh
    rcases hh with rfl | rfl
    · exact ipl_application (sty m) (sty n) (sv m) (sv n) m.plain n.plain ih ih2 w
    · exact ipl_both (sty m) (sty n) (sv m) (sv n) m.plain n.plain ih ih2 w

end Go.Proofs.YtchkmdagbjbcjaaGreatDoor
