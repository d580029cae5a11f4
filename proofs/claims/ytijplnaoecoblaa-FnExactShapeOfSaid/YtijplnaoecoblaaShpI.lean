/- impl.shapeOfValue. -/
import Derived.Test.YtijplnaoecoblaaMathZ
import Derived.Test.YtijplnaoecoblaaAssert
import Derived.Test.YtijplnaoecoblaaNameF
namespace Go.Proofs.Ytijplnaoecoblaa
set_option linter.unusedVariables false
open Go.RowKit
set_option maxRecDepth 100000

def shV : Option Bs → Value
  | none => .tuple #[.string ⟨#[]⟩, .bool false]
  | some a => .tuple #[.string ⟨a.toArray⟩, .bool true]
theorem shV_none : shV none = .tuple #[.string ⟨#[]⟩, .bool false] := rfl
theorem shV_some (a : Bs) : shV (some a) = .tuple #[.string ⟨a.toArray⟩, .bool true] := rfl

theorem bothA_eq (a b : Bs) : ((((⟨#[40, 98, 111, 116, 104, 32]⟩ ++ ⟨a.toArray⟩) ++ ⟨#[32]⟩) ++ ⟨b.toArray⟩) ++ ⟨#[41]⟩ : ByteArray) = ⟨(bothS a b).toArray⟩ := by
  apply ByteArray.ext
  apply Array.toList_inj.1
  simp [ByteArray.data_append, bothS]

theorem shapeBoth_any (a b : Bs) (hA : a.length ≤ 20000) (hB : b.length ≤ 20000) (w : World) : Calls Try.prog 36 #[str a, str b] w fun e w' => e = .returned (str (bothS a b)) ∧ Below w.heap.size w w' := by
  have he := bothA_eq a b
  obtain ⟨A, hAe⟩ : ∃ A : ByteArray, A = ⟨a.toArray⟩ := ⟨_, rfl⟩
  obtain ⟨B, hBe⟩ : ∃ B : ByteArray, B = ⟨b.toArray⟩ := ⟨_, rfl⟩
  have hAs : A.size ≤ 20000 := by rw [hAe]; exact hA
  have hBs : B.size ≤ 20000 := by rw [hBe]; exact hB
  unfold str
  rw [← hAe, ← hBe] at he ⊢
  have he' := Lib.hid he
  clear he hAe hBe hA hB
  go_enter Try.func36, Try.ntmps36
  go_wp2_with fail
  go_ret
  exact ⟨by rw [← he'.out]; rfl, (by repeat (with_reducible first | exact hbel | exact Below.refl _ _ | refine Below.drew ?_ | refine Below.drewN ?_ _ | refine Below.alloc ?_ (by first | (simp; done) | (simp; omega) | omega | (have := Below.size hbel; simp; omega) | (have := Below.size hbel; omega)) _ | refine Below.setCell ?_ (by first | (simp; done) | (simp; omega) | omega) _))⟩

def SHV (p : P) : Prop := ∀ (w : World) (D : Nat → Prop) (x : Value), PI w D p x → (∀ g, D g → g < w.heap.size) → p.text.length ≤ 20000 →
  Calls Try.prog 14 #[.iface (pt p) x] w fun e w' => e = .returned (shV p.shp) ∧ Below w.heap.size w w'

theorem shv_nm (s : Bs) (hok : (P.nm s).ok = true) : SHV (.nm s) := by
  intro w D x hx hD hl
  obtain ⟨c, d, rfl, rfl⟩ := hx
  rw [P.ok] at hok
  have hn := isName_in hok
  have hc : varB c = true ∨ covB c = true := by
    simp only [isName, isVar, isCov, nameB, Bool.or_eq_true, Bool.and_eq_true] at hok
    rcases hok with h | h
    · exact .inl h.1.1
    · exact .inr h.1.1
  have hcall := Lib.hid (fun W => nameText_any c d hc (by have := hn.1; simp at this; omega) W)
  have h1 := ta_variable_variable
  have h2 := ta_variable_form
  have h3 := ta_covariable_variable
  have h4 := ta_covariable_form
  cases hv : firstIs varB (c :: d)
  · rw [show pt (.nm (c :: d)) = 53 from by simp [pt, hv], show (P.nm (c :: d)).shp = none from by simp [P.shp, hv]]
    clear hv hok hn hc
    go_enter Try.func14, Try.ntmps14
    go_wp2_with fail
    go_ret2
    exact ⟨rfl, (by repeat (with_reducible first | exact hbel | exact Below.refl _ _ | refine Below.drew ?_ | refine Below.drewN ?_ _ | refine Below.alloc ?_ (by first | (simp; done) | (simp; omega) | omega | (have := Below.size hbel; simp; omega) | (have := Below.size hbel; omega)) _ | refine Below.setCell ?_ (by first | (simp; done) | (simp; omega) | omega) _))⟩
  · rw [show pt (.nm (c :: d)) = 52 from by simp [pt, hv], show (P.nm (c :: d)).shp = some (c :: d) from by simp [P.shp, hv]]
    clear hv hok hn hc
    go_enter Try.func14, Try.ntmps14
    go_wp2_with (go_at_call 23; refine Calls.mono (hcall.out _) ?_; rintro e w1 ⟨rfl, hb1⟩)
    go_ret2
    exact ⟨rfl, below_step (by repeat (with_reducible first | exact hbel | exact Below.refl _ _ | refine Below.drew ?_ | refine Below.drewN ?_ _ | refine Below.alloc ?_ (by first | (simp; done) | (simp; omega) | omega | (have := Below.size hbel; simp; omega) | (have := Below.size hbel; omega)) _ | refine Below.setCell ?_ (by first | (simp; done) | (simp; omega) | omega) _)) (by simp) hb1⟩

theorem shv_bd (s : Bs) (b : P) : SHV (.bd s b) := by
  intro w D x hx hD hl
  obtain ⟨c, d, y, rfl, rfl, -⟩ := hx
  rw [show (P.bd (c :: d) b).shp = none from rfl, show pt (.bd (c :: d) b) = 93 from rfl]
  have h1 := ta_binder_variable
  have h2 := ta_binder_form
  generalize pt b = t
  go_enter Try.func14, Try.ntmps14
  go_wp2_with fail
  go_ret2
  exact ⟨rfl, (by repeat (with_reducible first | exact hbel | exact Below.refl _ _ | refine Below.drew ?_ | refine Below.drewN ?_ _ | refine Below.alloc ?_ (by first | (simp; done) | (simp; omega) | omega | (have := Below.size hbel; simp; omega) | (have := Below.size hbel; omega)) _ | refine Below.setCell ?_ (by first | (simp; done) | (simp; omega) | omega) _))⟩

theorem shv_f1 (h : Bs) (p : P) (hok : (P.f1 h p).ok = true) : SHV (.f1 h p) := by
  intro w D x hx hD hl
  obtain ⟨g, n, y, rfl, -, -, -⟩ := hx
  rw [show pt (.f1 h p) = 66 from rfl]
  have h1 := ta_form_variable
  have h2 := ta_form_form
  rw [P.ok, Bool.and_eq_true, decide_eq_true_iff] at hok
  have hne : h ≠ pairB := by intro e; subst e; have := hok.2; rw [show hd1 pairB = none from rfl] at this; cases this
  clear hok
  by_cases hB : h = [110, 111, 116]
  · subst hB
    rw [show (P.f1 [110, 111, 116] p).shp = some funB from rfl]
    go_enter Try.func14, Try.ntmps14
    go_wp2_with fail
    go_ret2
    exact ⟨rfl, (by repeat (with_reducible first | exact hbel | exact Below.refl _ _ | refine Below.drew ?_ | refine Below.drewN ?_ _ | refine Below.alloc ?_ (by first | (simp; done) | (simp; omega) | omega | (have := Below.size hbel; simp; omega) | (have := Below.size hbel; omega)) _ | refine Below.setCell ?_ (by first | (simp; done) | (simp; omega) | omega) _))⟩
  · rw [show (P.f1 h p).shp = none from if_neg hB]
    have e1 : (h == [110, 111, 116]) = false := by rw [beq_eq_false_iff_ne]; exact hB
    have e2 : (h == [112, 97, 105, 114]) = false := by rw [beq_eq_false_iff_ne]; exact hne
    clear hB hne
    go_enter Try.func14, Try.ntmps14
    go_wp2_with fail
    go_ret2
    exact ⟨rfl, (by repeat (with_reducible first | exact hbel | exact Below.refl _ _ | refine Below.drew ?_ | refine Below.drewN ?_ _ | refine Below.alloc ?_ (by first | (simp; done) | (simp; omega) | omega | (have := Below.size hbel; simp; omega) | (have := Below.size hbel; omega)) _ | refine Below.setCell ?_ (by first | (simp; done) | (simp; omega) | omega) _))⟩

theorem parts_any (p q : P) (Hp : Hid (SHV p)) (Hq : Hid (SHV q)) (w : World) (D : Nat → Prop) (x y : Value) (hx : PI w D p x) (hy : PI w D q y) (hD : ∀ g, D g → g < w.heap.size) (hlp : p.text.length ≤ 20000) (hlq : q.text.length ≤ 20000) :
    Calls Try.prog 24 #[.iface (pt p) x, .iface (pt q) y] w fun e w' => e = .returned (shV (bothO p.shp q.shp)) ∧ Below w.heap.size w w' := by
  have hc1 := Lib.hid (Hp.out w D x hx hD hlp)
  have hc2 := Lib.hid (fun W (hW : Below w.heap.size w W) => Hq.out W D y (hy.below hW hD) (fun g hg => Nat.lt_of_lt_of_le (hD g hg) hW.size) hlq)
  have hl1 := fun a (h : p.shp = some a) => Nat.le_trans (P.shp_len h) hlp
  have hl2 := fun a (h : q.shp = some a) => Nat.le_trans (P.shp_len h) hlq
  generalize p.shp = o1 at *
  generalize q.shp = o2 at *
  generalize pt p = t1 at *
  generalize pt q = t2 at *
  clear hx hy hD hlp hlq Hp Hq
  cases o1 with
  | none =>
    cases o2 with
    | none =>
      clear hl1 hl2
      rw [shV_none] at hc1
      rw [shV_none] at hc2
      go_enter Try.func24, Try.ntmps24
      go_wp2_with fail
      refine Calls.mono hc1.out ?_
      rintro e w1 ⟨rfl, hb1⟩
      go_wp2_with fail
      refine Calls.mono (hc2.out _ hb1) ?_
      rintro e w2 ⟨rfl, hb2⟩
      go_wp2_with fail
      go_ret2
      exact ⟨rfl, below_step hb1 (Nat.le_refl _) hb2⟩
    | some b =>
      clear hl1 hl2
      rw [shV_none] at hc1
      rw [shV_some] at hc2
      go_enter Try.func24, Try.ntmps24
      go_wp2_with fail
      refine Calls.mono hc1.out ?_
      rintro e w1 ⟨rfl, hb1⟩
      go_wp2_with fail
      refine Calls.mono (hc2.out _ hb1) ?_
      rintro e w2 ⟨rfl, hb2⟩
      go_wp2_with fail
      go_ret2
      exact ⟨rfl, below_step hb1 (Nat.le_refl _) hb2⟩
  | some a =>
    cases o2 with
    | none =>
      clear hl1 hl2
      rw [shV_some] at hc1
      rw [shV_none] at hc2
      go_enter Try.func24, Try.ntmps24
      go_wp2_with fail
      refine Calls.mono hc1.out ?_
      rintro e w1 ⟨rfl, hb1⟩
      go_wp2_with fail
      refine Calls.mono (hc2.out _ hb1) ?_
      rintro e w2 ⟨rfl, hb2⟩
      go_wp2_with fail
      go_ret2
      exact ⟨rfl, below_step hb1 (Nat.le_refl _) hb2⟩
    | some b =>
      have hb := Lib.hid (fun W => shapeBoth_any a b (hl1 a rfl) (hl2 b rfl) W)
      clear hl1 hl2
      rw [shV_some] at hc1
      rw [shV_some] at hc2
      go_enter Try.func24, Try.ntmps24
      go_wp2_with fail
      refine Calls.mono hc1.out ?_
      rintro e w1 ⟨rfl, hb1⟩
      go_wp2_with fail
      refine Calls.mono (hc2.out _ hb1) ?_
      rintro e w2 ⟨rfl, hb2⟩
      have hb12 := Lib.hid (below_step hb1 (Nat.le_refl _) hb2)
      clear hb1 hb2
      go_wp2_with fail
      refine Calls.mono (hb.out _) ?_
      rintro e w3 ⟨rfl, hb3⟩
      go_wp2_with fail
      go_ret2
      exact ⟨rfl, below_step hb12.out (Nat.le_refl _) hb3⟩

theorem shv_f2 (h : Bs) (p q : P) (hok : (P.f2 h p q).ok = true) (Hp : Hid (SHV p)) (Hq : Hid (SHV q)) : SHV (.f2 h p q) := by
  intro w D x hx hD hl
  have hlpq : p.text.length ≤ 20000 ∧ q.text.length ≤ 20000 := by
    simp [P.text, P.tree, T.text, textAll] at hl
    rw [P.text, P.text]; omega
  obtain ⟨g, n, y, z, rfl, hg, h0, hp, h1', hq⟩ := hx
  have hcall := Lib.hid (fun W (hW : Below w.heap.size w W) => parts_any p q Hp Hq W D y z (hp.below hW hD) (hq.below hW hD) (fun g hg => Nat.lt_of_lt_of_le (hD g hg) hW.size) hlpq.1 hlpq.2)
  have hgw := hD g hg
  rw [show pt (.f2 h p q) = 66 from rfl]
  have h1 := ta_form_variable
  have h2 := ta_form_form
  rw [P.ok, Bool.and_eq_true, Bool.and_eq_true, decide_eq_true_iff] at hok
  have hne : h ≠ notB := by intro e; subst e; have := hok.2; rw [show hd2 notB = none from rfl] at this; cases this
  clear hok hl hlpq Hp Hq hp hq hD
  by_cases hB : h = [112, 97, 105, 114]
  · subst hB
    rw [show (P.f2 [112, 97, 105, 114] p q).shp = bothO p.shp q.shp from rfl]
    generalize bothO p.shp q.shp = o at *
    generalize pt p = t1 at *
    generalize pt q = t2 at *
    clear hne
    obtain ⟨a, b, hab⟩ : ∃ a b, shV o = .tuple #[.string a, .bool b] := by cases o; exact ⟨_, _, rfl⟩; exact ⟨_, _, rfl⟩
    rw [hab] at hcall ⊢
    clear hab
    have hbx := heap_alloc_new w (.cells #[.string ⟨#[112, 97, 105, 114]⟩, .slice (some ⟨g, 0, none⟩) 2 n] 66)
    obtain ⟨z0, b0, b1, -, -⟩ := two_cells hbx
    have hW0 : Below w.heap.size w (w.alloc (.cells #[.string ⟨#[112, 97, 105, 114]⟩, .slice (some ⟨g, 0, none⟩) 2 n] 66)) := (Below.refl _ _).alloc (Nat.le_refl _) _
    have hS := Lib.hid (fun W (hW : Below (w.alloc (.cells #[.string ⟨#[112, 97, 105, 114]⟩, .slice (some ⟨g, 0, none⟩) 2 n] 66)).heap.size (w.alloc (.cells #[.string ⟨#[112, 97, 105, 114]⟩, .slice (some ⟨g, 0, none⟩) 2 n] 66)) W) =>
      (show W.cell? ⟨g, 0, none⟩ = some (.iface t1 y) ∧ W.cell? ⟨g, 1, none⟩ = some (.iface t2 z) ∧ W.cell? ⟨w.heap.size, 1, none⟩ = some (.slice (some ⟨g, 0, none⟩) 2 n) from
        ⟨(hW.cell (p := ⟨g, 0, none⟩) (by simp; omega)).trans ((hW0.cell (p := ⟨g, 0, none⟩) hgw).trans h0), (hW.cell (p := ⟨g, 1, none⟩) (by simp; omega)).trans ((hW0.cell (p := ⟨g, 1, none⟩) hgw).trans h1'), (hW.cell (p := ⟨w.heap.size, 1, none⟩) (by simp)).trans b1⟩))
    clear hbx hW0
    go_enter Try.func14, Try.ntmps14
    go_wp2_with fail
    go_region_held3 (fun W' => W'.cell? ⟨g, 0, none⟩ = some (.iface t1 y) ∧ W'.cell? ⟨g, 1, none⟩ = some (.iface t2 z) ∧ W'.cell? ⟨w.heap.size, 1, none⟩ = some (.slice (some ⟨g, 0, none⟩) 2 n)) (first | exact hS.out _ (by repeat (with_reducible first | exact Below.refl _ _ | exact hbb | refine Below.drew ?_ | refine Below.drewN ?_ _ | refine bb_alloc ?_ _ | refine below_step ?_ (Nat.le_refl _) hb1 | refine below_step ?_ (Nat.le_refl _) hb2 | refine below_step ?_ (Nat.le_refl _) hb3 | refine below_step ?_ (Nat.le_refl _) hb4))) (first | (go_at_call 24; refine Calls.mono (hcall.out _ (by repeat (with_reducible first | exact hbel | exact Below.refl _ _ | refine Below.drew ?_ | refine Below.drewN ?_ _ | refine Below.alloc ?_ (by first | (simp; done) | (simp; omega) | omega | (have := Below.size hbel; simp; omega) | (have := Below.size hbel; omega)) _ | refine Below.setCell ?_ (by first | (simp; done) | (simp; omega) | omega) _))) ?_; rintro e w1 ⟨rfl, hb1⟩))
    all_goals
      go_wp2_with fail
      go_ret2
      exact ⟨rfl, below_step (by repeat (with_reducible first | exact hbel | exact Below.refl _ _ | refine Below.drew ?_ | refine Below.drewN ?_ _ | refine Below.alloc ?_ (by first | (simp; done) | (simp; omega) | omega | (have := Below.size hbel; simp; omega) | (have := Below.size hbel; omega)) _ | refine Below.setCell ?_ (by first | (simp; done) | (simp; omega) | omega) _)) (by simp) hb1⟩
  · rw [show (P.f2 h p q).shp = none from if_neg hB]
    have e1 : (h == [110, 111, 116]) = false := by rw [beq_eq_false_iff_ne]; exact hne
    have e2 : (h == [112, 97, 105, 114]) = false := by rw [beq_eq_false_iff_ne]; exact hB
    generalize pt p = t1 at *
    generalize pt q = t2 at *
    clear hB hne hcall
    go_enter Try.func14, Try.ntmps14
    go_wp2_with fail
    go_ret2
    exact ⟨rfl, (by repeat (with_reducible first | exact hbel | exact Below.refl _ _ | refine Below.drew ?_ | refine Below.drewN ?_ _ | refine Below.alloc ?_ (by first | (simp; done) | (simp; omega) | omega | (have := Below.size hbel; simp; omega) | (have := Below.size hbel; omega)) _ | refine Below.setCell ?_ (by first | (simp; done) | (simp; omega) | omega) _))⟩

theorem shv_any : ∀ {p : P}, p.ok = true → SHV p
  | .nm s, hok => shv_nm s hok
  | .bd s b, hok => shv_bd s b
  | .f1 h p, hok => shv_f1 h p hok
  | .f2 h p q, hok => by
    have hok' := hok
    rw [P.ok, Bool.and_eq_true, Bool.and_eq_true, decide_eq_true_iff] at hok'
    exact shv_f2 h p q hok (shv_any hok'.1.1) (shv_any hok'.1.2)

end Go.Proofs.Ytijplnaoecoblaa
