/- impl.makeOne. impl.makeTwo, where the first part is a name. -/
import Derived.Test.YtchkmdagbjbcjaaGreatDoorSrcT
namespace Go.Proofs.YtchkmdagbjbcjaaGreatDoor
set_option linter.unusedVariables false
open Go.RowKit
set_option maxRecDepth 100000

theorem EV.up {w w' W : World} {e : Value} (h : EV W (New w.heap.size W) e) (hb : Below W.heap.size W w') (hW : w.heap.size ≤ W.heap.size) : EV w' (New w.heap.size w') e :=
  h.keep (fun g hg => hb.block g hg.2) (fun g hg => ⟨hg.1, Nat.lt_of_lt_of_le hg.2 hb.size⟩)

/-- What a call has made is new behind what was before it. -/
theorem EV.new {w W w1 : World} {e : Value} (h : EV w1 (New W.heap.size w1) e) (hW : w.heap.size ≤ W.heap.size) : EV w1 (New w.heap.size w1) e :=
  h.to (fun g hg => ⟨Nat.le_trans hW hg.1, hg.2⟩)

theorem MSP.one {o : Option Src} {w W w1 : World} {x y : Value} (h : Bs) (hW : Below w.heap.size w W) (hb : Below W.heap.size W w1) (ho : match o with
    | some m => x = .iface (sty m) (sv m) ∧ y = .nilIface
    | none => EV w1 (New W.heap.size w1) y) : MSP (mkS1 h o) w (.returned (.tuple #[.iface (if h = leftB then 125 else 126) (.agg #[x]), y])) w1 := by
  refine ⟨below_step hW (Nat.le_refl _) hb, _, _, rfl, .inr ⟨_, _, rfl⟩, ?_⟩
  cases o with
  | none => exact ho.new hW.size
  | some m =>
    obtain ⟨rfl, rfl⟩ := ho
    exact ⟨rfl, rfl⟩

set_option maxHeartbeats 2000000 in
theorem makeOne_any (k : Nat) (H : Hid (MS k)) (h : Bs) (t : T) (w : World) (D : Nat → Prop) (a : ByteArray) (p : Option Addr) (n c : Nat) (hk : t.sz ≤ k) (hg : t.good = true) (ht : TC w D t a p n c) (hD : ∀ g, D g → g < w.heap.size) :
    Calls Tryz.prog 44 #[str h, .agg #[.string a, .slice p n c]] w (MSP (if h1B h = true then mkS1 h (toSrc t) else none) w) := by
  have hcall := Lib.hid (fun W (hW : Below w.heap.size w W) => H.out t W D a p n c hk hg (ht.below hW hD) (fun g hg => Nat.lt_of_lt_of_le (hD g hg) hW.size))
  clear H ht hD hg hk
  generalize toSrc t = o at *
  have hW0 := Lib.hid (fun X => ((Below.refl w.heap.size w).alloc (Nat.le_refl _) X))
  by_cases hl : h = [108, 101, 102, 116]
  · subst hl
    rw [show h1B [108, 101, 102, 116] = true from rfl, if_pos rfl]
    go_enter Tryz.func44, Tryz.ntmps44
    go_wp2_with fail
    refine Calls.mono (hcall.out _ (by repeat (with_reducible first | exact hbel | exact Below.refl _ _ | refine Below.drew ?_ | refine Below.drewN ?_ _ | refine Below.alloc ?_ (by first | (simp; done) | (simp; omega) | omega | (have := Below.size hbel; simp; omega) | (have := Below.size hbel; omega)) _ | refine Below.setCell ?_ (by first | (simp; done) | (simp; omega) | omega) _))) ?_
    rintro e w1 ⟨hb1, x, y, rfl, hx, ho⟩
    have hfin := Lib.hid (MSP.one [108, 101, 102, 116] (hW0.out _) hb1 ho)
    clear hb1 ho
    rcases hx with rfl | ⟨ty, v, rfl⟩
    all_goals
      go_wp2_with fail
      go_ret2
      exact hfin.out
  · have e1 : (h == [108, 101, 102, 116]) = false := by rw [beq_eq_false_iff_ne]; exact hl
    by_cases hr : h = [114, 105, 103, 104, 116]
    · subst hr
      rw [show h1B [114, 105, 103, 104, 116] = true from rfl, if_pos rfl]
      go_enter Tryz.func44, Tryz.ntmps44
      go_wp2_with fail
      refine Calls.mono (hcall.out _ (by repeat (with_reducible first | exact hbel | exact Below.refl _ _ | refine Below.drew ?_ | refine Below.drewN ?_ _ | refine Below.alloc ?_ (by first | (simp; done) | (simp; omega) | omega | (have := Below.size hbel; simp; omega) | (have := Below.size hbel; omega)) _ | refine Below.setCell ?_ (by first | (simp; done) | (simp; omega) | omega) _))) ?_
      rintro e w1 ⟨hb1, x, y, rfl, hx, ho⟩
      have hfin := Lib.hid (MSP.one [114, 105, 103, 104, 116] (hW0.out _) hb1 ho)
      clear hb1 ho
      rcases hx with rfl | ⟨ty, v, rfl⟩
      all_goals
        go_wp2_with fail
        go_ret2
        exact hfin.out
    · have e2 : (h == [114, 105, 103, 104, 116]) = false := by rw [beq_eq_false_iff_ne]; exact hr
      rw [if_neg (by simp [h1B, leftB, rightB, e1, e2])]
      clear hl hr
      go_enter Tryz.func44, Tryz.ntmps44
      go_wp2_with fail
      refine Calls.mono (hcall.out _ (by repeat (with_reducible first | exact hbel | exact Below.refl _ _ | refine Below.drew ?_ | refine Below.drewN ?_ _ | refine Below.alloc ?_ (by first | (simp; done) | (simp; omega) | omega | (have := Below.size hbel; simp; omega) | (have := Below.size hbel; omega)) _ | refine Below.setCell ?_ (by first | (simp; done) | (simp; omega) | omega) _))) ?_
      rintro e w1 ⟨hb1, x, y, rfl, hx, ho⟩
      have hfin := Lib.hid (MSP.no (w := w) ⟨h.toArray⟩ (below_step (hW0.out _) (Nat.le_refl _) hb1) (.inl rfl))
      clear hb1 ho
      rcases hx with rfl | ⟨ty, v, rfl⟩
      all_goals
        go_wp2_with fail
        go_ret2
        exact hfin.out

end Go.Proofs.YtchkmdagbjbcjaaGreatDoor

namespace Go.Proofs.YtchkmdagbjbcjaaGreatDoor
set_option linter.unusedVariables false
open Go.RowKit
set_option maxRecDepth 100000

theorem MSP.nb {o : Option Src} {h s : Bs} {w w4 : World} {X z : Value} (hb : Below w.heap.size w w4) (hz : EO w4 (New w.heap.size w4) (hnB h s && o.isSome) z) (hX : IfV X)
    (hval : hnB h s = true → ∀ m, o = some m → X = .iface (sty (.nb h s m)) (sv (.nb h s m))) : MSP (mkSb h s o) w (.returned (.tuple #[X, z])) w4 := by
  refine ⟨hb, _, _, rfl, hX, ?_⟩
  cases o with
  | none => rw [Option.isSome_none, Bool.and_false] at hz; exact hz
  | some m =>
    cases hh : hnB h s
    · rw [hh] at hz
      rw [Bool.false_and] at hz
      simp only [mkSb, hh, Bool.false_eq_true, if_false]
      exact hz
    · rw [hh] at hz
      have e := hval hh m rfl
      simp only [mkSb, hh, if_true]
      exact ⟨e, hz⟩

theorem EO.form {w : World} {D : Nat → Prop} {ok : Bool} {e : Value} (h : EO w D ok e) : e = .nilIface ∨ ∃ ty v, e = .iface ty v := by
  cases ok with
  | true => exact .inl h
  | false => exact .inr (EV.form h)

/-- The two errors of a name and of a term are joined. -/
theorem join_nb {w w1 w2 V : World} {o : Option Src} {y ne : Value} {okn : Bool} {q : Nat} (h01 : Below w.heap.size w w1) (hy : EO w1 (New w.heap.size w1) o.isSome y)
    (h12 : Below w1.heap.size w1 w2) (hn : EO w2 (fun _ => False) okn ne) (h2V : Below w2.heap.size w2 V) (c0 : V.cell? ⟨q, 0, none⟩ = some ne) (c1 : V.cell? ⟨q, 1, none⟩ = some y) :
    Calls Tryz.prog 61 #[.slice (some ⟨q, 0, none⟩) 2 2] V fun e w' => ∃ z, e = .returned z ∧ Below V.heap.size V w' ∧ EO w' (New w.heap.size w') (okn && o.isSome) z := by
  have s1 := h01.size
  have s2 := h12.size
  have s3 := h2V.size
  have b1V : Below w1.heap.size w1 V := below_step h12 (Nat.le_refl _) h2V
  refine Calls.mono (join_any q 2 ne y okn o.isSome V (New w.heap.size w1) (hn.keep (fun g hg => hg.elim) (fun g hg => hg.elim)) (hy.keep (fun g hg => b1V.block g hg.2) (fun g hg => hg)) (fun g hg => by have := hg.2; omega) c0 c1) ?_
  rintro e w' ⟨z, rfl, hb, hz⟩
  refine ⟨z, rfl, hb, hz.keep (fun _ _ => rfl) (fun g hg => ?_)⟩
  have := hb.size
  rcases hg with hg | hg
  · exact ⟨hg.1, by have := hg.2; omega⟩
  · exact ⟨by omega, hg.2⟩
theorem NOPost.eo {p : UInt8 → Bool} {s : ByteArray} {w' : World} {a x : Value} (h : match nameB p s.data.toList with
    | true => x = .nilIface ∧ ∃ c d, s.data.toList = c :: d ∧ a = nameV c d
    | false => a = noName ∧ EV w' (fun _ => False) x) : EO w' (fun _ => False) (nameB p s.data.toList) x ∧ ∃ (c : UInt8) (d : Bs), a = nameV c d ∧ (nameB p s.data.toList = true → s.data.toList = c :: d) := by
  cases hn : nameB p s.data.toList with
  | true =>
    rw [hn] at h
    obtain ⟨rfl, c, d, h1, rfl⟩ := h
    exact ⟨rfl, c, d, rfl, fun _ => h1⟩
  | false =>
    rw [hn] at h
    obtain ⟨rfl, h⟩ := h
    exact ⟨h, 0, [], rfl, fun h => by cases h⟩

theorem nb_val {h s : Bs} {c : UInt8} {d : Bs} {m : Src} {x : Value} (hs : s = c :: d) (hx : x = .iface (sty m) (sv m)) : Value.agg #[.int .u8 c.toNat, str d, x] = sv (.nb h s m) := by
  subst hs; subst hx; rfl

set_option maxHeartbeats 4000000 in
theorem makeTwo_lam (k : Nat) (H : Hid (MS k)) (t u : T) (w : World) (D : Nat → Prop) (a b : ByteArray) (p q : Option Addr) (n m c d : Nat) (hk : u.sz ≤ k) (hg1 : t.good = true) (hg : u.good = true) (ht : TC w D t a p n c) (hu : TC w D u b q m d) (hD : ∀ g, D g → g < w.heap.size) :
    Calls Tryz.prog 45 #[str [108, 97, 109], .agg #[.string a, .slice p n c], .agg #[.string b, .slice q m d]] w (MSP (mkSb [108, 97, 109] (atomOf t) (toSrc u)) w) := by
  have hcall := Lib.hid (fun W (hW : Below w.heap.size w W) => H.out u W D b q m d hk hg (hu.below hW hD) (fun g hg => Nat.lt_of_lt_of_le (hD g hg) hW.size))
  have hta := ht.textA
  have hname := Lib.hid (fun W => nameOf_any ⟨#[120, 121, 122]⟩ varB (fun c => idx3 c) a (good_bytes hg1 hta) W)
  have hta' : Hid (a.data.toList = atomOf t) := Lib.hid (by rw [hta])
  clear H ht hu hD hg hg1 hk hta
  generalize toSrc u = o at *
  generalize atomOf t = s at *
  have hW0 := Lib.hid (fun X Y => ((Below.refl w.heap.size w).alloc (Nat.le_refl _) X).alloc (by simp) Y)
  go_enter Tryz.func45, Tryz.ntmps45
  go_wp2_with fail
  refine Calls.mono (hcall.out _ (by repeat (with_reducible first | exact hbel | exact Below.refl _ _ | refine Below.drew ?_ | refine Below.drewN ?_ _ | refine Below.alloc ?_ (by first | (simp; done) | (simp; omega) | omega | (have := Below.size hbel; simp; omega) | (have := Below.size hbel; omega)) _ | refine Below.setCell ?_ (by first | (simp; done) | (simp; omega) | omega) _))) ?_
  rintro e w1 ⟨hb1, x, y, rfl, hx, ho⟩
  obtain ⟨z0, b0, -, -, -⟩ := two_cells ((hb1.block w.heap.size (by simp; omega)).trans (first_alloc w _ _))
  have hb01 := Lib.hid (below_step (hW0.out _ _) (Nat.le_refl _) hb1)
  have hy := Lib.hid ((MSP.eo ho).keep (fun _ _ => rfl) (fun g hg => (⟨Nat.le_trans (hW0.out _ _).size hg.1, hg.2⟩ : New w.heap.size w1 g)))
  have hxo := Lib.hid (show ∀ m, o = some m → x = .iface (sty m) (sv m) from fun m hm => by subst hm; exact ho.1)
  clear hb1 ho
  have hx' : ∃ X, x = X ∧ (X = .nilIface ∨ ∃ ty v, X = .iface ty v) := ⟨x, rfl, hx⟩
  clear hx
  obtain ⟨X, hxX, hx⟩ := hx'
  have hxX' := Lib.hid hxX
  rcases hx with rfl | ⟨ty, v, rfl⟩
  all_goals
    subst hxX
    go_wp2_with fail
    refine Calls.mono (hname.out _) ?_
    rintro e w2 ⟨hb2, nv, ne, rfl, hn⟩
    obtain ⟨hne, c0, d0, rfl, hcd⟩ := NOPost.eo hn
    clear hn
    have hnf := hne.form
    have hyf := hy.out.form
    have hcd' := Lib.hid hcd
    have hjoin := Lib.hid (fun V q h2V k0 k1 => join_nb (V := V) (q := q) hb01.out hy.out hb2 hne h2V k0 k1)
    have hb02 := Lib.hid (below_step hb01.out (Nat.le_refl _) hb2)
    clear hb2 hne hcd
    have hnb : hnB [108, 97, 109] s = nameB varB a.data.toList := by rw [hta'.out]; rfl
    rw [← hnb] at hjoin hcd'
    have hnb' := Lib.hid hnb
    clear hnb
    have hbx := two_cells (heap_alloc_new w2 (.cells #[.int .u8 c0.toNat, str d0] 76))
    have hS := Lib.hid (fun W (hW : Below (w2.alloc (.cells #[.int .u8 c0.toNat, str d0] 76)).heap.size (w2.alloc (.cells #[.int .u8 c0.toNat, str d0] 76)) W) =>
      (show W.cell? ⟨w2.heap.size, 0, none⟩ = some (.int .u8 c0.toNat) ∧ W.cell? ⟨w2.heap.size, 1, none⟩ = some (str d0) ∧ Below w2.heap.size w2 W from
        ⟨(hW.cell (p := ⟨w2.heap.size, 0, none⟩) (by simp)).trans hbx.2.1, (hW.cell (p := ⟨w2.heap.size, 1, none⟩) (by simp)).trans hbx.2.2.1, below_step ((Below.refl _ _).alloc (Nat.le_refl _) _) (Nat.le_refl _) hW⟩))
    clear hbx
    rcases hnf with rfl | ⟨nty, nv, rfl⟩ <;> rcases hyf with rfl | ⟨yty, yv, rfl⟩
    all_goals
      go_wp2_with fail
      go_region_held3 (fun W' => W'.cell? ⟨w2.heap.size, 0, none⟩ = some (.int .u8 c0.toNat) ∧ W'.cell? ⟨w2.heap.size, 1, none⟩ = some (str d0) ∧ Below w2.heap.size w2 W') (first | exact hS.out _ (by repeat (with_reducible first | exact Below.refl _ _ | exact hbb | refine Below.drew ?_ | refine Below.drewN ?_ _ | refine bb_alloc ?_ _ | refine below_step ?_ (Nat.le_refl _) hb1 | refine below_step ?_ (Nat.le_refl _) hb2 | refine below_step ?_ (Nat.le_refl _) hb3 | refine below_step ?_ (Nat.le_refl _) hb4)))
        (first | (go_at_call 61; refine Calls.mono (hjoin.out _ _ (hS.out _ (by repeat (with_reducible first | exact Below.refl _ _ | exact hbb | refine Below.drew ?_ | refine Below.drewN ?_ _ | refine bb_alloc ?_ _ | refine below_step ?_ (Nat.le_refl _) hb1 | refine below_step ?_ (Nat.le_refl _) hb2 | refine below_step ?_ (Nat.le_refl _) hb3 | refine below_step ?_ (Nat.le_refl _) hb4))).2.2 (by simp) (by simp)) ?_; rintro e w3 ⟨z, rfl, hb3, hz⟩))
      all_goals
        go_wp2_with fail
        go_ret2
        exact MSP.nb (below_step hb02.out (Nat.le_refl _) (hS.out _ (by repeat (with_reducible first | exact Below.refl _ _ | exact hbb | refine Below.drew ?_ | refine Below.drewN ?_ _ | refine bb_alloc ?_ _ | refine below_step ?_ (Nat.le_refl _) hb1 | refine below_step ?_ (Nat.le_refl _) hb2 | refine below_step ?_ (Nat.le_refl _) hb3 | refine below_step ?_ (Nat.le_refl _) hb4))).2.2) hz (.inr ⟨_, _, rfl⟩) (fun h m hm => congrArg (Value.iface _) (nb_val ((hta'.out).symm.trans (hcd'.out h)) (hxo.out m hm)))

end Go.Proofs.YtchkmdagbjbcjaaGreatDoor
