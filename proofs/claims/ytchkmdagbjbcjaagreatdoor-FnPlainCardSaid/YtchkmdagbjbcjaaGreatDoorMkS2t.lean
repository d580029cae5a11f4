/- impl.makeTwo at the word catch. impl.makeTwo at the word throw. -/
import Derived.Test.YtchkmdagbjbcjaaGreatDoorMkS2
namespace Go.Proofs.YtchkmdagbjbcjaaGreatDoor
set_option linter.unusedVariables false
open Go.RowKit
set_option maxRecDepth 100000

set_option maxHeartbeats 4000000 in
theorem makeTwo_catch (k : Nat) (H : Hid (MS k)) (t u : T) (w : World) (D : Nat → Prop) (a b : ByteArray) (p q : Option Addr) (n m c d : Nat) (hk : u.sz ≤ k) (hg1 : t.good = true) (hg : u.good = true) (ht : TC w D t a p n c) (hu : TC w D u b q m d) (hD : ∀ g, D g → g < w.heap.size) :
    Calls Tryz.prog 45 #[str [99, 97, 116, 99, 104], .agg #[.string a, .slice p n c], .agg #[.string b, .slice q m d]] w (MSP (mkSb [99, 97, 116, 99, 104] (atomOf t) (toSrc u)) w) := by
  have hcall := Lib.hid (fun W (hW : Below w.heap.size w W) => H.out u W D b q m d hk hg (hu.below hW hD) (fun g hg => Nat.lt_of_lt_of_le (hD g hg) hW.size))
  have hta := ht.textA
  have hname := Lib.hid (fun W => nameOf_any ⟨#[107, 108, 109]⟩ covB (fun c => idx3k c) a (good_bytes hg1 hta) W)
  have hta' : Hid (a.data.toList = atomOf t) := Lib.hid (by rw [hta])
  clear H ht hu hD hg hg1 hk hta
  generalize toSrc u = o at *
  generalize atomOf t = s at *
  have hW0 := Lib.hid (fun X Y => ((Below.refl w.heap.size w).alloc (Nat.le_refl _) X).alloc (by simp) Y)
  go_enter Tryz.func45, Tryz.ntmps45
  go_wp2_with fail
  refine Calls.mono (hcall.out _ (by repeat (with_reducible first | exact hbel | exact Below.refl _ _ | refine Below.drew ?_ | refine Below.drewN ?_ _ | refine Below.alloc ?_ (by first | (simp; done) | (simp; omega) | omega | (have := Below.size hbel; simp; omega) | (have := Below.size hbel; omega)) _ | refine Below.setCell ?_ (by first | (simp; done) | (simp; omega) | omega) _))) ?_
  rintro e w1 ⟨hb1, x, y, rfl, hx, ho⟩
  obtain ⟨z0, b0, -, -, -⟩ := two_cells ((hb1.block w.heap.size (by simp; omega)).trans (first_alloc w _ _))
  have hb01 := Lib.hid (below_step (hW0.out _ _) (Nat.le_refl _) hb1)
  have hy := Lib.hid ((MSP.eo ho).keep (fun _ _ => rfl) (fun g hg => (⟨Nat.le_trans (hW0.out _ _).size hg.1, hg.2⟩ : New w.heap.size w1 g)))
  have hxo := Lib.hid (show ∀ m, o = some m → x = .iface (sty m) (sv m) from fun m hm => by subst hm; exact ho.1)
  clear hb1 ho
  have hx' : ∃ X, x = X ∧ (X = .nilIface ∨ ∃ ty v, X = .iface ty v) := ⟨x, rfl, hx⟩
  clear hx
  obtain ⟨X, hxX, hx⟩ := hx'
  have hxX' := Lib.hid hxX
  rcases hx with rfl | ⟨ty, v, rfl⟩
  all_goals
    subst hxX
    go_wp2_with fail
    refine Calls.mono (hname.out _) ?_
    rintro e w2 ⟨hb2, nv, ne, rfl, hn⟩
    obtain ⟨hne, c0, d0, rfl, hcd⟩ := NOPost.eo hn
    clear hn
    have hnf := hne.form
    have hyf := hy.out.form
    have hcd' := Lib.hid hcd
    have hjoin := Lib.hid (fun V q h2V k0 k1 => join_nb (V := V) (q := q) hb01.out hy.out hb2 hne h2V k0 k1)
    have hb02 := Lib.hid (below_step hb01.out (Nat.le_refl _) hb2)
    clear hb2 hne hcd
    have hnb : hnB [99, 97, 116, 99, 104] s = nameB covB a.data.toList := by rw [hta'.out]; rfl
    rw [← hnb] at hjoin hcd'
    have hnb' := Lib.hid hnb
    clear hnb
    have hbx := two_cells (heap_alloc_new w2 (.cells #[.int .u8 c0.toNat, str d0] 76))
    have hS := Lib.hid (fun W (hW : Below (w2.alloc (.cells #[.int .u8 c0.toNat, str d0] 76)).heap.size (w2.alloc (.cells #[.int .u8 c0.toNat, str d0] 76)) W) =>
      (show W.cell? ⟨w2.heap.size, 0, none⟩ = some (.int .u8 c0.toNat) ∧ W.cell? ⟨w2.heap.size, 1, none⟩ = some (str d0) ∧ Below w2.heap.size w2 W from
        ⟨(hW.cell (p := ⟨w2.heap.size, 0, none⟩) (by simp)).trans hbx.2.1, (hW.cell (p := ⟨w2.heap.size, 1, none⟩) (by simp)).trans hbx.2.2.1, below_step ((Below.refl _ _).alloc (Nat.le_refl _) _) (Nat.le_refl _) hW⟩))
    clear hbx
    rcases hnf with rfl | ⟨nty, nv, rfl⟩ <;> rcases hyf with rfl | ⟨yty, yv, rfl⟩
    all_goals
      go_wp2_with fail
      go_region_held3 (fun W' => W'.cell? ⟨w2.heap.size, 0, none⟩ = some (.int .u8 c0.toNat) ∧ W'.cell? ⟨w2.heap.size, 1, none⟩ = some (str d0) ∧ Below w2.heap.size w2 W') (first | exact hS.out _ (by repeat (with_reducible first | exact Below.refl _ _ | exact hbb | refine Below.drew ?_ | refine Below.drewN ?_ _ | refine bb_alloc ?_ _ | refine below_step ?_ (Nat.le_refl _) hb1 | refine below_step ?_ (Nat.le_refl _) hb2 | refine below_step ?_ (Nat.le_refl _) hb3 | refine below_step ?_ (Nat.le_refl _) hb4)))
        (first | (go_at_call 61; refine Calls.mono (hjoin.out _ _ (hS.out _ (by repeat (with_reducible first | exact Below.refl _ _ | exact hbb | refine Below.drew ?_ | refine Below.drewN ?_ _ | refine bb_alloc ?_ _ | refine below_step ?_ (Nat.le_refl _) hb1 | refine below_step ?_ (Nat.le_refl _) hb2 | refine below_step ?_ (Nat.le_refl _) hb3 | refine below_step ?_ (Nat.le_refl _) hb4))).2.2 (by simp) (by simp)) ?_; rintro e w3 ⟨z, rfl, hb3, hz⟩))
      all_goals
        go_wp2_with fail
        go_ret2
        exact MSP.nb (below_step hb02.out (Nat.le_refl _) (hS.out _ (by repeat (with_reducible first | exact Below.refl _ _ | exact hbb | refine Below.drew ?_ | refine Below.drewN ?_ _ | refine bb_alloc ?_ _ | refine below_step ?_ (Nat.le_refl _) hb1 | refine below_step ?_ (Nat.le_refl _) hb2 | refine below_step ?_ (Nat.le_refl _) hb3 | refine below_step ?_ (Nat.le_refl _) hb4))).2.2) hz (.inr ⟨_, _, rfl⟩) (fun h m hm => congrArg (Value.iface _) (nb_val ((hta'.out).symm.trans (hcd'.out h)) (hxo.out m hm)))

end Go.Proofs.YtchkmdagbjbcjaaGreatDoor

namespace Go.Proofs.YtchkmdagbjbcjaaGreatDoor
set_option linter.unusedVariables false
open Go.RowKit
set_option maxRecDepth 100000

set_option maxHeartbeats 4000000 in
theorem makeTwo_throw (k : Nat) (H : Hid (MS k)) (t u : T) (w : World) (D : Nat → Prop) (a b : ByteArray) (p q : Option Addr) (n m c d : Nat) (hk : u.sz ≤ k) (hg1 : t.good = true) (hg : u.good = true) (ht : TC w D t a p n c) (hu : TC w D u b q m d) (hD : ∀ g, D g → g < w.heap.size) :
    Calls Tryz.prog 45 #[str [116, 104, 114, 111, 119], .agg #[.string a, .slice p n c], .agg #[.string b, .slice q m d]] w (MSP (mkSb [116, 104, 114, 111, 119] (atomOf t) (toSrc u)) w) := by
  have hcall := Lib.hid (fun W (hW : Below w.heap.size w W) => H.out u W D b q m d hk hg (hu.below hW hD) (fun g hg => Nat.lt_of_lt_of_le (hD g hg) hW.size))
  have hta := ht.textA
  have hname := Lib.hid (fun W => nameOf_any ⟨#[107, 108, 109]⟩ covB (fun c => idx3k c) a (good_bytes hg1 hta) W)
  have hta' : Hid (a.data.toList = atomOf t) := Lib.hid (by rw [hta])
  clear H ht hu hD hg hg1 hk hta
  generalize toSrc u = o at *
  generalize atomOf t = s at *
  have hW0 := Lib.hid (fun X Y => ((Below.refl w.heap.size w).alloc (Nat.le_refl _) X).alloc (by simp) Y)
  go_enter Tryz.func45, Tryz.ntmps45
  go_wp2_with fail
  refine Calls.mono (hcall.out _ (by repeat (with_reducible first | exact hbel | exact Below.refl _ _ | refine Below.drew ?_ | refine Below.drewN ?_ _ | refine Below.alloc ?_ (by first | (simp; done) | (simp; omega) | omega | (have := Below.size hbel; simp; omega) | (have := Below.size hbel; omega)) _ | refine Below.setCell ?_ (by first | (simp; done) | (simp; omega) | omega) _))) ?_
  rintro e w1 ⟨hb1, x, y, rfl, hx, ho⟩
  obtain ⟨z0, b0, -, -, -⟩ := two_cells ((hb1.block w.heap.size (by simp; omega)).trans (first_alloc w _ _))
  have hb01 := Lib.hid (below_step (hW0.out _ _) (Nat.le_refl _) hb1)
  have hy := Lib.hid ((MSP.eo ho).keep (fun _ _ => rfl) (fun g hg => (⟨Nat.le_trans (hW0.out _ _).size hg.1, hg.2⟩ : New w.heap.size w1 g)))
  have hxo := Lib.hid (show ∀ m, o = some m → x = .iface (sty m) (sv m) from fun m hm => by subst hm; exact ho.1)
  clear hb1 ho
  have hx' : ∃ X, x = X ∧ (X = .nilIface ∨ ∃ ty v, X = .iface ty v) := ⟨x, rfl, hx⟩
  clear hx
  obtain ⟨X, hxX, hx⟩ := hx'
  have hxX' := Lib.hid hxX
  rcases hx with rfl | ⟨ty, v, rfl⟩
  all_goals
    subst hxX
    go_wp2_with fail
    refine Calls.mono (hname.out _) ?_
    rintro e w2 ⟨hb2, nv, ne, rfl, hn⟩
    obtain ⟨hne, c0, d0, rfl, hcd⟩ := NOPost.eo hn
    clear hn
    have hnf := hne.form
    have hyf := hy.out.form
    have hcd' := Lib.hid hcd
    have hjoin := Lib.hid (fun V q h2V k0 k1 => join_nb (V := V) (q := q) hb01.out hy.out hb2 hne h2V k0 k1)
    have hb02 := Lib.hid (below_step hb01.out (Nat.le_refl _) hb2)
    clear hb2 hne hcd
    have hnb : hnB [116, 104, 114, 111, 119] s = nameB covB a.data.toList := by rw [hta'.out]; rfl
    rw [← hnb] at hjoin hcd'
    have hnb' := Lib.hid hnb
    clear hnb
    have hbx := two_cells (heap_alloc_new w2 (.cells #[.int .u8 c0.toNat, str d0] 76))
    have hS := Lib.hid (fun W (hW : Below (w2.alloc (.cells #[.int .u8 c0.toNat, str d0] 76)).heap.size (w2.alloc (.cells #[.int .u8 c0.toNat, str d0] 76)) W) =>
      (show W.cell? ⟨w2.heap.size, 0, none⟩ = some (.int .u8 c0.toNat) ∧ W.cell? ⟨w2.heap.size, 1, none⟩ = some (str d0) ∧ Below w2.heap.size w2 W from
        ⟨(hW.cell (p := ⟨w2.heap.size, 0, none⟩) (by simp)).trans hbx.2.1, (hW.cell (p := ⟨w2.heap.size, 1, none⟩) (by simp)).trans hbx.2.2.1, below_step ((Below.refl _ _).alloc (Nat.le_refl _) _) (Nat.le_refl _) hW⟩))
    clear hbx
    rcases hnf with rfl | ⟨nty, nv, rfl⟩ <;> rcases hyf with rfl | ⟨yty, yv, rfl⟩
    all_goals
      go_wp2_with fail
      go_region_held3 (fun W' => W'.cell? ⟨w2.heap.size, 0, none⟩ = some (.int .u8 c0.toNat) ∧ W'.cell? ⟨w2.heap.size, 1, none⟩ = some (str d0) ∧ Below w2.heap.size w2 W') (first | exact hS.out _ (by repeat (with_reducible first | exact Below.refl _ _ | exact hbb | refine Below.drew ?_ | refine Below.drewN ?_ _ | refine bb_alloc ?_ _ | refine below_step ?_ (Nat.le_refl _) hb1 | refine below_step ?_ (Nat.le_refl _) hb2 | refine below_step ?_ (Nat.le_refl _) hb3 | refine below_step ?_ (Nat.le_refl _) hb4)))
        (first | (go_at_call 61; refine Calls.mono (hjoin.out _ _ (hS.out _ (by repeat (with_reducible first | exact Below.refl _ _ | exact hbb | refine Below.drew ?_ | refine Below.drewN ?_ _ | refine bb_alloc ?_ _ | refine below_step ?_ (Nat.le_refl _) hb1 | refine below_step ?_ (Nat.le_refl _) hb2 | refine below_step ?_ (Nat.le_refl _) hb3 | refine below_step ?_ (Nat.le_refl _) hb4))).2.2 (by simp) (by simp)) ?_; rintro e w3 ⟨z, rfl, hb3, hz⟩))
      all_goals
        go_wp2_with fail
        go_ret2
        exact MSP.nb (below_step hb02.out (Nat.le_refl _) (hS.out _ (by repeat (with_reducible first | exact Below.refl _ _ | exact hbb | refine Below.drew ?_ | refine Below.drewN ?_ _ | refine bb_alloc ?_ _ | refine below_step ?_ (Nat.le_refl _) hb1 | refine below_step ?_ (Nat.le_refl _) hb2 | refine below_step ?_ (Nat.le_refl _) hb3 | refine below_step ?_ (Nat.le_refl _) hb4))).2.2) hz (.inr ⟨_, _, rfl⟩) (fun h m hm => congrArg (Value.iface _) (nb_val ((hta'.out).symm.trans (hcd'.out h)) (hxo.out m hm)))

end Go.Proofs.YtchkmdagbjbcjaaGreatDoor
