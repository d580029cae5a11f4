/- impl.makeTwo at app, at both, and at a word that has no two parts. -/
import Derived.Test.YtchkmdagbjbcjaaGreatDoorMkS2
namespace Go.Proofs.YtchkmdagbjbcjaaGreatDoor
set_option linter.unusedVariables false
open Go.RowKit
set_option maxRecDepth 100000

theorem MSP.n2 {o1 o2 : Option Src} {h : Bs} {w w4 : World} {x1 x2 z : Value} (hb : Below w.heap.size w w4) (hz : EO w4 (New w.heap.size w4) (o1.isSome && o2.isSome) z) (h1 : ∀ m, o1 = some m → x1 = .iface (sty m) (sv m)) (h2 : ∀ m, o2 = some m → x2 = .iface (sty m) (sv m)) :
    MSP (mkS2 h o1 o2) w (.returned (.tuple #[.iface (if h = appB then 131 else 132) (.agg #[x1, x2]), z])) w4 := by
  refine ⟨hb, _, _, rfl, .inr ⟨_, _, rfl⟩, ?_⟩
  cases o1 with
  | none => rw [Option.isSome_none, Bool.false_and] at hz; exact hz
  | some m1 =>
    cases o2 with
    | none => rw [Option.isSome_none, Bool.and_false] at hz; exact hz
    | some m2 =>
      rw [h1 m1 rfl, h2 m2 rfl]
      exact ⟨rfl, hz⟩

/-- The errors of two terms are joined. -/
theorem join_n2 {w w1 w2 V : World} {o1 o2 : Option Src} {y1 y2 : Value} {q : Nat} (h01 : Below w.heap.size w w1) (hy2 : EO w1 (New w.heap.size w1) o2.isSome y2)
    (h12 : Below w1.heap.size w1 w2) (hy1 : EO w2 (New w1.heap.size w2) o1.isSome y1) (h2V : Below w2.heap.size w2 V) (c0 : V.cell? ⟨q, 0, none⟩ = some y1) (c1 : V.cell? ⟨q, 1, none⟩ = some y2) :
    Calls Tryz.prog 61 #[.slice (some ⟨q, 0, none⟩) 2 2] V fun e w' => ∃ z, e = .returned z ∧ Below V.heap.size V w' ∧ EO w' (New w.heap.size w') (o1.isSome && o2.isSome) z := by
  have s1 := h01.size
  have s2 := h12.size
  have s3 := h2V.size
  have b1V : Below w1.heap.size w1 V := below_step h12 (Nat.le_refl _) h2V
  refine Calls.mono (join_any q 2 y1 y2 o1.isSome o2.isSome V (New w.heap.size w2) (hy1.keep (fun g hg => h2V.block g hg.2) (fun g hg => ⟨by have := hg.1; omega, hg.2⟩)) (hy2.keep (fun g hg => b1V.block g hg.2) (fun g hg => ⟨hg.1, by have := hg.2; omega⟩)) (fun g hg => by have := hg.2; omega) c0 c1) ?_
  rintro e w' ⟨z, rfl, hb, hz⟩
  refine ⟨z, rfl, hb, hz.keep (fun _ _ => rfl) (fun g hg => ?_)⟩
  have := hb.size
  rcases hg with hg | hg
  · exact ⟨hg.1, by have := hg.2; omega⟩
  · exact ⟨by omega, hg.2⟩

/-- A term and its error, told apart by whether it is one. -/
theorem MSP.forms {o : Option Src} {w1 : World} {D : Nat → Prop} {x y : Value} (hx : IfV x) (hy : EO w1 D o.isSome y) : (x = .nilIface ∨ ∃ ty v, x = .iface ty v) ∧ (y = .nilIface ∨ ∃ ty v, y = .iface ty v) := ⟨hx, hy.form⟩

set_option maxHeartbeats 4000000 in
theorem makeTwo_app (k : Nat) (H : Hid (MS k)) (t u : T) (w : World) (D : Nat → Prop) (a b : ByteArray) (p q : Option Addr) (n m c d : Nat) (hk1 : t.sz ≤ k) (hk : u.sz ≤ k) (hg1 : t.good = true) (hg : u.good = true) (ht : TC w D t a p n c) (hu : TC w D u b q m d) (hD : ∀ g, D g → g < w.heap.size) :
    Calls Tryz.prog 45 #[str [97, 112, 112], .agg #[.string a, .slice p n c], .agg #[.string b, .slice q m d]] w (MSP (mkS2 [97, 112, 112] (toSrc t) (toSrc u)) w) := by
  have hcall := Lib.hid (fun W (hW : Below w.heap.size w W) => H.out u W D b q m d hk hg (hu.below hW hD) (fun g hg => Nat.lt_of_lt_of_le (hD g hg) hW.size))
  have hcall1 := Lib.hid (fun W (hW : Below w.heap.size w W) => H.out t W D a p n c hk1 hg1 (ht.below hW hD) (fun g hg => Nat.lt_of_lt_of_le (hD g hg) hW.size))
  clear H ht hu hD hg hg1 hk hk1
  generalize toSrc u = o2 at *
  generalize toSrc t = o1 at *
  have hW0 := Lib.hid (fun X Y => ((Below.refl w.heap.size w).alloc (Nat.le_refl _) X).alloc (by simp) Y)
  go_enter Tryz.func45, Tryz.ntmps45
  go_wp2_with fail
  refine Calls.mono (hcall.out _ (by repeat (with_reducible first | exact hbel | exact Below.refl _ _ | refine Below.drew ?_ | refine Below.drewN ?_ _ | refine Below.alloc ?_ (by first | (simp; done) | (simp; omega) | omega | (have := Below.size hbel; simp; omega) | (have := Below.size hbel; omega)) _ | refine Below.setCell ?_ (by first | (simp; done) | (simp; omega) | omega) _))) ?_
  rintro e w1 ⟨hb1, x2, y2, rfl, hx2, ho2⟩
  have hb01 := Lib.hid (below_step (hW0.out _ _) (Nat.le_refl _) hb1)
  obtain ⟨z0, b0, b1, -, -⟩ := two_cells ((hb1.block w.heap.size (by simp; omega)).trans (first_alloc w _ _))
  have hy2 := Lib.hid ((MSP.eo ho2).keep (fun _ _ => rfl) (fun g hg => (⟨Nat.le_trans (hW0.out _ _).size hg.1, hg.2⟩ : New w.heap.size w1 g)))
  have hxo2 := Lib.hid (show ∀ m, o2 = some m → x2 = .iface (sty m) (sv m) from fun m hm => by subst hm; exact ho2.1)
  have hf2 := MSP.forms hx2 (MSP.eo ho2)
  clear hb1 ho2 hx2
  obtain ⟨hfx, hfy⟩ := hf2
  rcases hfx with rfl | ⟨ty, v, rfl⟩ <;> rcases hfy with rfl | ⟨yty, yv, rfl⟩
  all_goals
    go_wp2_with fail
    refine Calls.mono (hcall1.out _ hb01.out) ?_
    rintro e w2 ⟨hb2, x1, y1, rfl, hx1, ho1⟩
    have hy1 := Lib.hid (MSP.eo ho1)
    have hxo1 := Lib.hid (show ∀ m, o1 = some m → x1 = .iface (sty m) (sv m) from fun m hm => by subst hm; exact ho1.1)
    have hf1 := MSP.forms hx1 (MSP.eo ho1)
    have hb02 := Lib.hid (below_step hb01.out (Nat.le_refl _) hb2)
    have hjoin := Lib.hid (fun V q h2V k0 k1 => join_n2 (V := V) (q := q) hb01.out hy2.out hb2 hy1.out h2V k0 k1)
    clear hb2 ho1 hx1
    obtain ⟨hfx1, hfy1⟩ := hf1
    rcases hfx1 with rfl | ⟨ty1, v1, rfl⟩ <;> rcases hfy1 with rfl | ⟨yty1, yv1, rfl⟩
    all_goals
      go_wp2_with (first | (go_at_call 61; refine Calls.mono (hjoin.out _ _ (by repeat (with_reducible first | exact Below.refl _ _ | exact hbb | refine Below.drew ?_ | refine Below.drewN ?_ _ | refine bb_alloc ?_ _ | refine below_step ?_ (Nat.le_refl _) hb1 | refine below_step ?_ (Nat.le_refl _) hb2 | refine below_step ?_ (Nat.le_refl _) hb3 | refine below_step ?_ (Nat.le_refl _) hb4)) (by simp) (by simp)) ?_; rintro e w3 ⟨z, rfl, hb3, hz⟩))
      go_ret2
      exact MSP.n2 (h := [97, 112, 112]) (below_step hb02.out (Nat.le_refl _) (by repeat (with_reducible first | exact Below.refl _ _ | exact hbb | refine Below.drew ?_ | refine Below.drewN ?_ _ | refine bb_alloc ?_ _ | refine below_step ?_ (Nat.le_refl _) hb1 | refine below_step ?_ (Nat.le_refl _) hb2 | refine below_step ?_ (Nat.le_refl _) hb3 | refine below_step ?_ (Nat.le_refl _) hb4))) hz hxo1.out hxo2.out

set_option maxHeartbeats 4000000 in
theorem makeTwo_both (k : Nat) (H : Hid (MS k)) (t u : T) (w : World) (D : Nat → Prop) (a b : ByteArray) (p q : Option Addr) (n m c d : Nat) (hk1 : t.sz ≤ k) (hk : u.sz ≤ k) (hg1 : t.good = true) (hg : u.good = true) (ht : TC w D t a p n c) (hu : TC w D u b q m d) (hD : ∀ g, D g → g < w.heap.size) :
    Calls Tryz.prog 45 #[str [98, 111, 116, 104], .agg #[.string a, .slice p n c], .agg #[.string b, .slice q m d]] w (MSP (mkS2 [98, 111, 116, 104] (toSrc t) (toSrc u)) w) := by
  have hcall := Lib.hid (fun W (hW : Below w.heap.size w W) => H.out u W D b q m d hk hg (hu.below hW hD) (fun g hg => Nat.lt_of_lt_of_le (hD g hg) hW.size))
  have hcall1 := Lib.hid (fun W (hW : Below w.heap.size w W) => H.out t W D a p n c hk1 hg1 (ht.below hW hD) (fun g hg => Nat.lt_of_lt_of_le (hD g hg) hW.size))
  clear H ht hu hD hg hg1 hk hk1
  generalize toSrc u = o2 at *
  generalize toSrc t = o1 at *
  have hW0 := Lib.hid (fun X Y => ((Below.refl w.heap.size w).alloc (Nat.le_refl _) X).alloc (by simp) Y)
  go_enter Tryz.func45, Tryz.ntmps45
  go_wp2_with fail
  refine Calls.mono (hcall.out _ (by repeat (with_reducible first | exact hbel | exact Below.refl _ _ | refine Below.drew ?_ | refine Below.drewN ?_ _ | refine Below.alloc ?_ (by first | (simp; done) | (simp; omega) | omega | (have := Below.size hbel; simp; omega) | (have := Below.size hbel; omega)) _ | refine Below.setCell ?_ (by first | (simp; done) | (simp; omega) | omega) _))) ?_
  rintro e w1 ⟨hb1, x2, y2, rfl, hx2, ho2⟩
  have hb01 := Lib.hid (below_step (hW0.out _ _) (Nat.le_refl _) hb1)
  obtain ⟨z0, b0, b1, -, -⟩ := two_cells ((hb1.block w.heap.size (by simp; omega)).trans (first_alloc w _ _))
  have hy2 := Lib.hid ((MSP.eo ho2).keep (fun _ _ => rfl) (fun g hg => (⟨Nat.le_trans (hW0.out _ _).size hg.1, hg.2⟩ : New w.heap.size w1 g)))
  have hxo2 := Lib.hid (show ∀ m, o2 = some m → x2 = .iface (sty m) (sv m) from fun m hm => by subst hm; exact ho2.1)
  have hf2 := MSP.forms hx2 (MSP.eo ho2)
  clear hb1 ho2 hx2
  obtain ⟨hfx, hfy⟩ := hf2
  rcases hfx with rfl | ⟨ty, v, rfl⟩ <;> rcases hfy with rfl | ⟨yty, yv, rfl⟩
  all_goals
    go_wp2_with fail
    refine Calls.mono (hcall1.out _ hb01.out) ?_
    rintro e w2 ⟨hb2, x1, y1, rfl, hx1, ho1⟩
    have hy1 := Lib.hid (MSP.eo ho1)
    have hxo1 := Lib.hid (show ∀ m, o1 = some m → x1 = .iface (sty m) (sv m) from fun m hm => by subst hm; exact ho1.1)
    have hf1 := MSP.forms hx1 (MSP.eo ho1)
    have hb02 := Lib.hid (below_step hb01.out (Nat.le_refl _) hb2)
    have hjoin := Lib.hid (fun V q h2V k0 k1 => join_n2 (V := V) (q := q) hb01.out hy2.out hb2 hy1.out h2V k0 k1)
    clear hb2 ho1 hx1
    obtain ⟨hfx1, hfy1⟩ := hf1
    rcases hfx1 with rfl | ⟨ty1, v1, rfl⟩ <;> rcases hfy1 with rfl | ⟨yty1, yv1, rfl⟩
    all_goals
      go_wp2_with (first | (go_at_call 61; refine Calls.mono (hjoin.out _ _ (by repeat (with_reducible first | exact Below.refl _ _ | exact hbb | refine Below.drew ?_ | refine Below.drewN ?_ _ | refine bb_alloc ?_ _ | refine below_step ?_ (Nat.le_refl _) hb1 | refine below_step ?_ (Nat.le_refl _) hb2 | refine below_step ?_ (Nat.le_refl _) hb3 | refine below_step ?_ (Nat.le_refl _) hb4)) (by simp) (by simp)) ?_; rintro e w3 ⟨z, rfl, hb3, hz⟩))
      go_ret2
      exact MSP.n2 (h := [98, 111, 116, 104]) (below_step hb02.out (Nat.le_refl _) (by repeat (with_reducible first | exact Below.refl _ _ | exact hbb | refine Below.drew ?_ | refine Below.drewN ?_ _ | refine bb_alloc ?_ _ | refine below_step ?_ (Nat.le_refl _) hb1 | refine below_step ?_ (Nat.le_refl _) hb2 | refine below_step ?_ (Nat.le_refl _) hb3 | refine below_step ?_ (Nat.le_refl _) hb4))) hz hxo1.out hxo2.out

set_option maxHeartbeats 4000000 in
theorem makeTwo_no (k : Nat) (H : Hid (MS k)) (h : Bs) (e1 : (h == [108, 97, 109]) = false) (e2 : (h == [99, 97, 116, 99, 104]) = false) (e3 : (h == [116, 104, 114, 111, 119]) = false) (e4 : (h == [97, 112, 112]) = false) (e5 : (h == [98, 111, 116, 104]) = false) (t u : T) (w : World) (D : Nat → Prop) (a b : ByteArray) (p q : Option Addr) (n m c d : Nat) (hk1 : t.sz ≤ k) (hk : u.sz ≤ k) (hg1 : t.good = true) (hg : u.good = true) (ht : TC w D t a p n c) (hu : TC w D u b q m d) (hD : ∀ g, D g → g < w.heap.size) :
    Calls Tryz.prog 45 #[str h, .agg #[.string a, .slice p n c], .agg #[.string b, .slice q m d]] w (MSP none w) := by
  have hcall := Lib.hid (fun W (hW : Below w.heap.size w W) => H.out u W D b q m d hk hg (hu.below hW hD) (fun g hg => Nat.lt_of_lt_of_le (hD g hg) hW.size))
  have hcall1 := Lib.hid (fun W (hW : Below w.heap.size w W) => H.out t W D a p n c hk1 hg1 (ht.below hW hD) (fun g hg => Nat.lt_of_lt_of_le (hD g hg) hW.size))
  clear H ht hu hD hg hg1 hk hk1
  generalize toSrc u = o2 at *
  generalize toSrc t = o1 at *
  have hW0 := Lib.hid (fun X Y => ((Below.refl w.heap.size w).alloc (Nat.le_refl _) X).alloc (by simp) Y)
  go_enter Tryz.func45, Tryz.ntmps45
  go_wp2_with fail
  refine Calls.mono (hcall.out _ (by repeat (with_reducible first | exact hbel | exact Below.refl _ _ | refine Below.drew ?_ | refine Below.drewN ?_ _ | refine Below.alloc ?_ (by first | (simp; done) | (simp; omega) | omega | (have := Below.size hbel; simp; omega) | (have := Below.size hbel; omega)) _ | refine Below.setCell ?_ (by first | (simp; done) | (simp; omega) | omega) _))) ?_
  rintro e w1 ⟨hb1, x2, y2, rfl, hx2, ho2⟩
  have hb01 := Lib.hid (below_step (hW0.out _ _) (Nat.le_refl _) hb1)
  obtain ⟨z0, b0, b1, -, -⟩ := two_cells ((hb1.block w.heap.size (by simp; omega)).trans (first_alloc w _ _))
  have hy2 := Lib.hid ((MSP.eo ho2).keep (fun _ _ => rfl) (fun g hg => (⟨Nat.le_trans (hW0.out _ _).size hg.1, hg.2⟩ : New w.heap.size w1 g)))
  have hxo2 := Lib.hid (show ∀ m, o2 = some m → x2 = .iface (sty m) (sv m) from fun m hm => by subst hm; exact ho2.1)
  have hf2 := MSP.forms hx2 (MSP.eo ho2)
  clear hb1 ho2 hx2
  obtain ⟨hfx, hfy⟩ := hf2
  rcases hfx with rfl | ⟨ty, v, rfl⟩ <;> rcases hfy with rfl | ⟨yty, yv, rfl⟩
  all_goals
    go_wp2_with fail
    refine Calls.mono (hcall1.out _ hb01.out) ?_
    rintro e w2 ⟨hb2, x1, y1, rfl, hx1, ho1⟩
    have hy1 := Lib.hid (MSP.eo ho1)
    have hxo1 := Lib.hid (show ∀ m, o1 = some m → x1 = .iface (sty m) (sv m) from fun m hm => by subst hm; exact ho1.1)
    have hf1 := MSP.forms hx1 (MSP.eo ho1)
    have hb02 := Lib.hid (below_step hb01.out (Nat.le_refl _) hb2)
    clear hb2 ho1 hx1
    obtain ⟨hfx1, hfy1⟩ := hf1
    have hfin := Lib.hid (MSP.no (w := w) ⟨h.toArray⟩ hb02.out (.inl rfl))
    rcases hfx1 with rfl | ⟨ty1, v1, rfl⟩ <;> rcases hfy1 with rfl | ⟨yty1, yv1, rfl⟩
    all_goals
      go_wp2_with fail
      go_ret2
      exact hfin.out

end Go.Proofs.YtchkmdagbjbcjaaGreatDoor
