/- What is read is a formula or none: impl.makeFormula. -/
import Derived.Test.YtagafoldkfgikaaText
import Derived.Test.YtagafoldkfgikaaLetter
import Derived.Deep.RegionWith
import Derived.Deep.RegionHeld3
namespace Go.Proofs.Ytagafoldkfgikaa
set_option linter.unusedVariables false
open Go.RowKit

/-- A formula as the program's value of its interface type: the type, and what is in it. -/
def ft : F → TypeId
  | .lt _ => 89
  | .an _ _ => 74
  | .or _ _ => 75
  | .no _ => 77
def fi : F → Value
  | .lt s => str s
  | .an a b => .agg #[.iface (ft a) (fi a), .iface (ft b) (fi b)]
  | .or a b => .agg #[.iface (ft a) (fi a), .iface (ft b) (fi b)]
  | .no a => .agg #[.iface (ft a) (fi a)]
abbrev fv (f : F) : Value := .iface (ft f) (fi f)

def fvO : Option F → Value
  | none => .nilIface
  | some f => fv f

def FPost (o : Option F) (w : World) (e : Ending) (w' : World) : Prop :=
  Below w.heap.size w w' ∧ e = .returned (.tuple #[fvO o, .bool o.isSome])

theorem FPost.none_ {w w' : World} (hb : Below w.heap.size w w') : FPost none w (.returned (.tuple #[.nilIface, .bool false])) w' := ⟨hb, rfl⟩
theorem FPost.some_ {w w' : World} (f : F) (hb : Below w.heap.size w w') : FPost (some f) w (.returned (.tuple #[fv f, .bool true])) w' := ⟨hb, rfl⟩

def MF (k : Nat) : Prop := ∀ (t : T) (w : World) (D : Nat → Prop) (a : ByteArray) (p : Option Addr) (n c : Nat), t.sz ≤ k → TC w D t a p n c → (∀ g, D g → g < w.heap.size) →
  Calls Try.prog 37 #[.agg #[.string a, .slice p n c]] w (FPost (toF t) w)

theorem MF.yes {k : Nat} (h : MF k) {t : T} {f : F} (hf : toF t = some f) (w : World) {D : Nat → Prop} {a : ByteArray} {p : Option Addr} {n c : Nat} (hk : t.sz ≤ k) (ht : TC w D t a p n c) (hD : ∀ g, D g → g < w.heap.size) :
    Calls Try.prog 37 #[.agg #[.string a, .slice p n c]] w fun e w' => e = .returned (.tuple #[fv f, .bool true]) ∧ Below w.heap.size w w' :=
  (h t w D a p n c hk ht hD).mono fun e w' ⟨hb, he⟩ => ⟨by rw [he, hf]; rfl, hb⟩
theorem MF.not {k : Nat} (h : MF k) {t : T} (hf : toF t = none) (w : World) {D : Nat → Prop} {a : ByteArray} {p : Option Addr} {n c : Nat} (hk : t.sz ≤ k) (ht : TC w D t a p n c) (hD : ∀ g, D g → g < w.heap.size) :
    Calls Try.prog 37 #[.agg #[.string a, .slice p n c]] w fun e w' => e = .returned (.tuple #[.nilIface, .bool false]) ∧ Below w.heap.size w w' :=
  (h t w D a p n c hk ht hD).mono fun e w' ⟨hb, he⟩ => ⟨by rw [he, hf]; rfl, hb⟩

theorem makePair_any (k : Nat) (H : Hid (MF k)) (s : ByteArray) (l r : T) (w : World) (D : Nat → Prop) (a b : ByteArray) (p q : Option Addr) (n m c d : Nat)
    (hl : l.sz ≤ k) (hr : r.sz ≤ k) (tl : TC w D l a p n c) (tr : TC w D r b q m d) (hD : ∀ g, D g → g < w.heap.size) :
    Calls Try.prog 51 #[.string s, .agg #[.string a, .slice p n c], .agg #[.string b, .slice q m d]] w (FPost (pairF s.toList (toF l) (toF r)) w) := by
  have htl := Lib.hid tl
  have htr := Lib.hid tr
  have hD' := Lib.hid hD
  clear tl tr hD
  cases hfl : toF l with
  | none =>
    have hfl' := Lib.hid hfl
    clear hfl
    cases hfr : toF r with
    | none =>
      have hfr' := Lib.hid hfr
      clear hfr
      go_enter Try.func51, Try.ntmps51
      go_wp2_with fail
      refine (MF.not H.out hfl'.out _ hl (htl.out.below (by repeat (with_reducible first | exact hbel | exact Below.refl _ _ | refine Below.drew ?_ | refine Below.drewN ?_ _ | refine Below.alloc ?_ (by first | (simp; done) | (simp; omega) | omega | (have := Below.size hbel; simp; omega) | (have := Below.size hbel; omega)) _ | refine Below.setCell ?_ (by first | (simp; done) | (simp; omega) | omega) _)) hD'.out) (fun g hg => by have := hD'.out g hg; simp; omega)).mono ?_
      rintro e w1 ⟨rfl, hb1⟩
      have hw1 : Below w.heap.size w w1 := Below.trans (b := (w.alloc _).alloc _) (by repeat (with_reducible first | exact hbel | exact Below.refl _ _ | refine Below.drew ?_ | refine Below.drewN ?_ _ | refine Below.alloc ?_ (by first | (simp; done) | (simp; omega) | omega | (have := Below.size hbel; simp; omega) | (have := Below.size hbel; omega)) _ | refine Below.setCell ?_ (by first | (simp; done) | (simp; omega) | omega) _)) (hb1.mono (by simp; omega))
      obtain ⟨z0, r0, r1, -, -⟩ := two_cells ((hb1.block (w.heap.size + 1) (by simp)).trans (second_alloc w _ _))
      have hw1' := Lib.hid hw1
      clear hw1 hb1
      go_wp2_with fail
      refine (MF.not H.out hfr'.out _ hr (htr.out.below hw1'.out hD'.out) (fun g hg => by have := hD'.out g hg; omega)).mono ?_
      rintro e w2 ⟨rfl, hb2⟩
      have hbel' := Lib.hid (hw1'.out.trans (hb2.mono hw1'.out.size))
      clear hb2
      go_wp2_with fail
      go_ret2
      exact ⟨hbel'.out, by rw [pairF_none_left]; rfl⟩
    | some g =>
      have hfr' := Lib.hid hfr
      clear hfr
      go_enter Try.func51, Try.ntmps51
      go_wp2_with fail
      refine (MF.not H.out hfl'.out _ hl (htl.out.below (by repeat (with_reducible first | exact hbel | exact Below.refl _ _ | refine Below.drew ?_ | refine Below.drewN ?_ _ | refine Below.alloc ?_ (by first | (simp; done) | (simp; omega) | omega | (have := Below.size hbel; simp; omega) | (have := Below.size hbel; omega)) _ | refine Below.setCell ?_ (by first | (simp; done) | (simp; omega) | omega) _)) hD'.out) (fun g hg => by have := hD'.out g hg; simp; omega)).mono ?_
      rintro e w1 ⟨rfl, hb1⟩
      have hw1 : Below w.heap.size w w1 := Below.trans (b := (w.alloc _).alloc _) (by repeat (with_reducible first | exact hbel | exact Below.refl _ _ | refine Below.drew ?_ | refine Below.drewN ?_ _ | refine Below.alloc ?_ (by first | (simp; done) | (simp; omega) | omega | (have := Below.size hbel; simp; omega) | (have := Below.size hbel; omega)) _ | refine Below.setCell ?_ (by first | (simp; done) | (simp; omega) | omega) _)) (hb1.mono (by simp; omega))
      obtain ⟨z0, r0, r1, -, -⟩ := two_cells ((hb1.block (w.heap.size + 1) (by simp)).trans (second_alloc w _ _))
      have hw1' := Lib.hid hw1
      clear hw1 hb1
      go_wp2_with fail
      refine (MF.yes H.out hfr'.out _ hr (htr.out.below hw1'.out hD'.out) (fun g hg => by have := hD'.out g hg; omega)).mono ?_
      rintro e w2 ⟨rfl, hb2⟩
      have hbel' := Lib.hid (hw1'.out.trans (hb2.mono hw1'.out.size))
      clear hb2
      go_wp2_with fail
      go_ret2
      exact ⟨hbel'.out, by rw [pairF_none_left]; rfl⟩
  | some f =>
    have hfl' := Lib.hid hfl
    clear hfl
    cases hfr : toF r with
    | none =>
      have hfr' := Lib.hid hfr
      clear hfr
      go_enter Try.func51, Try.ntmps51
      go_wp2_with fail
      refine (MF.yes H.out hfl'.out _ hl (htl.out.below (by repeat (with_reducible first | exact hbel | exact Below.refl _ _ | refine Below.drew ?_ | refine Below.drewN ?_ _ | refine Below.alloc ?_ (by first | (simp; done) | (simp; omega) | omega | (have := Below.size hbel; simp; omega) | (have := Below.size hbel; omega)) _ | refine Below.setCell ?_ (by first | (simp; done) | (simp; omega) | omega) _)) hD'.out) (fun g hg => by have := hD'.out g hg; simp; omega)).mono ?_
      rintro e w1 ⟨rfl, hb1⟩
      have hw1 : Below w.heap.size w w1 := Below.trans (b := (w.alloc _).alloc _) (by repeat (with_reducible first | exact hbel | exact Below.refl _ _ | refine Below.drew ?_ | refine Below.drewN ?_ _ | refine Below.alloc ?_ (by first | (simp; done) | (simp; omega) | omega | (have := Below.size hbel; simp; omega) | (have := Below.size hbel; omega)) _ | refine Below.setCell ?_ (by first | (simp; done) | (simp; omega) | omega) _)) (hb1.mono (by simp; omega))
      obtain ⟨z0, r0, r1, -, -⟩ := two_cells ((hb1.block (w.heap.size + 1) (by simp)).trans (second_alloc w _ _))
      have hw1' := Lib.hid hw1
      clear hw1 hb1
      go_wp2_with fail
      refine (MF.not H.out hfr'.out _ hr (htr.out.below hw1'.out hD'.out) (fun g hg => by have := hD'.out g hg; omega)).mono ?_
      rintro e w2 ⟨rfl, hb2⟩
      have hbel' := Lib.hid (hw1'.out.trans (hb2.mono hw1'.out.size))
      clear hb2
      go_wp2_with fail
      go_ret2
      exact ⟨hbel'.out, by rw [pairF_none_right]; rfl⟩
    | some g =>
      have hfr' := Lib.hid hfr
      clear hfr
      cases h42 : (s.toList == [42])
      · cases h43 : (s.toList == [43])
        · have hp := Lib.hid (pairF_bad (some f) (some g) h42 h43)
          go_enter Try.func51, Try.ntmps51
          go_wp2_with fail
          refine (MF.yes H.out hfl'.out _ hl (htl.out.below (by repeat (with_reducible first | exact hbel | exact Below.refl _ _ | refine Below.drew ?_ | refine Below.drewN ?_ _ | refine Below.alloc ?_ (by first | (simp; done) | (simp; omega) | omega | (have := Below.size hbel; simp; omega) | (have := Below.size hbel; omega)) _ | refine Below.setCell ?_ (by first | (simp; done) | (simp; omega) | omega) _)) hD'.out) (fun g hg => by have := hD'.out g hg; simp; omega)).mono ?_
          rintro e w1 ⟨rfl, hb1⟩
          have hw1 : Below w.heap.size w w1 := Below.trans (b := (w.alloc _).alloc _) (by repeat (with_reducible first | exact hbel | exact Below.refl _ _ | refine Below.drew ?_ | refine Below.drewN ?_ _ | refine Below.alloc ?_ (by first | (simp; done) | (simp; omega) | omega | (have := Below.size hbel; simp; omega) | (have := Below.size hbel; omega)) _ | refine Below.setCell ?_ (by first | (simp; done) | (simp; omega) | omega) _)) (hb1.mono (by simp; omega))
          obtain ⟨z0, r0, r1, -, -⟩ := two_cells ((hb1.block (w.heap.size + 1) (by simp)).trans (second_alloc w _ _))
          have hw1' := Lib.hid hw1
          clear hw1 hb1
          go_wp2_with fail
          refine (MF.yes H.out hfr'.out _ hr (htr.out.below hw1'.out hD'.out) (fun g hg => by have := hD'.out g hg; omega)).mono ?_
          rintro e w2 ⟨rfl, hb2⟩
          have hbel' := Lib.hid (hw1'.out.trans (hb2.mono hw1'.out.size))
          clear hb2
          go_wp2_with fail
          go_ret2
          exact ⟨hbel'.out, by rw [hp.out]; rfl⟩
        · have hp := Lib.hid (pairF_or f g h42 h43)
          go_enter Try.func51, Try.ntmps51
          go_wp2_with fail
          refine (MF.yes H.out hfl'.out _ hl (htl.out.below (by repeat (with_reducible first | exact hbel | exact Below.refl _ _ | refine Below.drew ?_ | refine Below.drewN ?_ _ | refine Below.alloc ?_ (by first | (simp; done) | (simp; omega) | omega | (have := Below.size hbel; simp; omega) | (have := Below.size hbel; omega)) _ | refine Below.setCell ?_ (by first | (simp; done) | (simp; omega) | omega) _)) hD'.out) (fun g hg => by have := hD'.out g hg; simp; omega)).mono ?_
          rintro e w1 ⟨rfl, hb1⟩
          have hw1 : Below w.heap.size w w1 := Below.trans (b := (w.alloc _).alloc _) (by repeat (with_reducible first | exact hbel | exact Below.refl _ _ | refine Below.drew ?_ | refine Below.drewN ?_ _ | refine Below.alloc ?_ (by first | (simp; done) | (simp; omega) | omega | (have := Below.size hbel; simp; omega) | (have := Below.size hbel; omega)) _ | refine Below.setCell ?_ (by first | (simp; done) | (simp; omega) | omega) _)) (hb1.mono (by simp; omega))
          obtain ⟨z0, r0, r1, -, -⟩ := two_cells ((hb1.block (w.heap.size + 1) (by simp)).trans (second_alloc w _ _))
          have hw1' := Lib.hid hw1
          clear hw1 hb1
          go_wp2_with fail
          refine (MF.yes H.out hfr'.out _ hr (htr.out.below hw1'.out hD'.out) (fun g hg => by have := hD'.out g hg; omega)).mono ?_
          rintro e w2 ⟨rfl, hb2⟩
          have hbel' := Lib.hid (hw1'.out.trans (hb2.mono hw1'.out.size))
          clear hb2
          go_wp2_with fail
          go_ret2
          exact ⟨hbel'.out, by rw [hp.out]; rfl⟩
      · have hp := Lib.hid (pairF_an f g h42)
        go_enter Try.func51, Try.ntmps51
        go_wp2_with fail
        refine (MF.yes H.out hfl'.out _ hl (htl.out.below (by repeat (with_reducible first | exact hbel | exact Below.refl _ _ | refine Below.drew ?_ | refine Below.drewN ?_ _ | refine Below.alloc ?_ (by first | (simp; done) | (simp; omega) | omega | (have := Below.size hbel; simp; omega) | (have := Below.size hbel; omega)) _ | refine Below.setCell ?_ (by first | (simp; done) | (simp; omega) | omega) _)) hD'.out) (fun g hg => by have := hD'.out g hg; simp; omega)).mono ?_
        rintro e w1 ⟨rfl, hb1⟩
        have hw1 : Below w.heap.size w w1 := Below.trans (b := (w.alloc _).alloc _) (by repeat (with_reducible first | exact hbel | exact Below.refl _ _ | refine Below.drew ?_ | refine Below.drewN ?_ _ | refine Below.alloc ?_ (by first | (simp; done) | (simp; omega) | omega | (have := Below.size hbel; simp; omega) | (have := Below.size hbel; omega)) _ | refine Below.setCell ?_ (by first | (simp; done) | (simp; omega) | omega) _)) (hb1.mono (by simp; omega))
        obtain ⟨z0, r0, r1, -, -⟩ := two_cells ((hb1.block (w.heap.size + 1) (by simp)).trans (second_alloc w _ _))
        have hw1' := Lib.hid hw1
        clear hw1 hb1
        go_wp2_with fail
        refine (MF.yes H.out hfr'.out _ hr (htr.out.below hw1'.out hD'.out) (fun g hg => by have := hD'.out g hg; omega)).mono ?_
        rintro e w2 ⟨rfl, hb2⟩
        have hbel' := Lib.hid (hw1'.out.trans (hb2.mono hw1'.out.size))
        clear hb2
        go_wp2_with fail
        go_ret2
        exact ⟨hbel'.out, by rw [hp.out]; rfl⟩

theorem mf_atom (s : Bs) (w : World) : Calls Try.prog 37 #[.agg #[.string ⟨s.toArray⟩, .slice none 0 0]] w (FPost (toF (.atom s)) w) := by
  cases hl : isLet s
  · have hf := Lib.hid (show toF (.atom s) = none from by rw [toF_atom, hl]; rfl)
    go_enter Try.func37, Try.ntmps37
    go_wp2_with (go_at_call 50; refine (isLetter_str s false hl _).mono ?_; rintro e w' ⟨rfl, rfl⟩)
    go_ret2
    exact ⟨(by repeat (with_reducible first | exact hbel | exact Below.refl _ _ | refine Below.drew ?_ | refine Below.drewN ?_ _ | refine Below.alloc ?_ (by first | (simp; done) | (simp; omega) | omega | (have := Below.size hbel; simp; omega) | (have := Below.size hbel; omega)) _ | refine Below.setCell ?_ (by first | (simp; done) | (simp; omega) | omega) _)), by rw [hf.out]; rfl⟩
  · have hf := Lib.hid (show toF (.atom s) = some (.lt s) from by rw [toF_atom, hl]; rfl)
    go_enter Try.func37, Try.ntmps37
    go_wp2_with (go_at_call 50; refine (isLetter_str s true hl _).mono ?_; rintro e w' ⟨rfl, rfl⟩)
    go_ret2
    exact ⟨(by repeat (with_reducible first | exact hbel | exact Below.refl _ _ | refine Below.drew ?_ | refine Below.drewN ?_ _ | refine Below.alloc ?_ (by first | (simp; done) | (simp; omega) | omega | (have := Below.size hbel; simp; omega) | (have := Below.size hbel; omega)) _ | refine Below.setCell ?_ (by first | (simp; done) | (simp; omega) | omega) _)), by rw [hf.out]; rfl⟩

theorem mf_other (A : Option Addr) (n c : Nat) (w : World) (h2 : n ≠ 2) (h3 : n ≠ 3) : Calls Try.prog 37 #[.agg #[.string ⟨#[]⟩, .slice A n c]] w (FPost none w) := by
  have e2 : ((n : Int) == 2) = false := by rw [beq_eq_false_iff_ne]; omega
  have e3 : ((n : Int) == 3) = false := by rw [beq_eq_false_iff_ne]; omega
  by_cases h0 : n = 0
  · subst h0
    clear e2 e3
    go_enter Try.func37, Try.ntmps37
    go_wp2_with (go_at_call 50; refine (isLetter_str [] false rfl _).mono ?_; rintro e w' ⟨rfl, rfl⟩)
    go_ret2
    exact ⟨(by repeat (with_reducible first | exact hbel | exact Below.refl _ _ | refine Below.drew ?_ | refine Below.drewN ?_ _ | refine Below.alloc ?_ (by first | (simp; done) | (simp; omega) | omega | (have := Below.size hbel; simp; omega) | (have := Below.size hbel; omega)) _ | refine Below.setCell ?_ (by first | (simp; done) | (simp; omega) | omega) _)), rfl⟩
  · have e0 : ((n : Int) == 0) = false := by rw [beq_eq_false_iff_ne]; omega
    go_enter Try.func37, Try.ntmps37
    go_wp2_with fail
    go_ret2
    exact ⟨(by repeat (with_reducible first | exact hbel | exact Below.refl _ _ | refine Below.drew ?_ | refine Below.drewN ?_ _ | refine Below.alloc ?_ (by first | (simp; done) | (simp; omega) | omega | (have := Below.size hbel; simp; omega) | (have := Below.size hbel; omega)) _ | refine Below.setCell ?_ (by first | (simp; done) | (simp; omega) | omega) _)), rfl⟩

set_option maxHeartbeats 400000 in
theorem mf_pair (k : Nat) (H : Hid (MF k)) (x a b : T) (w : World) (D : Nat → Prop) (p : Option Addr) (c : Nat) (hk : (T.node [x, a, b]).sz ≤ k + 1) (s : ByteArray) (n : Nat) (ht : TC w D (.node [x, a, b]) s p n c) (hD : ∀ g, D g → g < w.heap.size) :
    Calls Try.prog 37 #[.agg #[.string s, .slice p n c]] w (FPost (toF (.node [x, a, b])) w) := by
  obtain ⟨rfl, hn, g, rfl, hg, hp⟩ := ht.part
  obtain ⟨a0, p0, n0, c0, x0, x1, t0⟩ := hp 0 x rfl
  obtain ⟨a1, p1, n1, c1, y0, y1, t1⟩ := hp 1 a rfl
  obtain ⟨a2, p2, n2, c2, z0, z1, t2⟩ := hp 2 b rfl
  have hgw := hD g hg
  have k1 := T.sz_part (ps := [x, a, b]) (i := 1) (t := a) rfl
  have k2 := T.sz_part (ps := [x, a, b]) (i := 2) (t := b) rfl
  have hf : toF (.node [x, a, b]) = pairF a0.toList (toF a) (toF b) := by rw [toF_pair, t0.text]
  obtain ⟨V, B, call⟩ : ∃ (V : Value) (B : Bool), (∀ w', Below w.heap.size w w' → FPost (toF (.node [x, a, b])) w (.returned (.tuple #[V, .bool B])) w') ∧ ∀ W, Below w.heap.size w W →
      Calls Try.prog 51 #[.string a0, .agg #[.string a1, .slice p1 n1 c1], .agg #[.string a2, .slice p2 n2 c2]] W fun e w' => e = .returned (.tuple #[V, .bool B]) ∧ Below W.heap.size W w' := by
    refine ⟨fvO (toF (.node [x, a, b])), (toF (.node [x, a, b])).isSome, fun w' hb => ⟨hb, rfl⟩, fun W hW => ?_⟩
    rw [hf]
    exact (makePair_any k H a0 a b W D a1 a2 p1 p2 n1 n2 c1 c2 (by omega) (by omega) (t1.below hW hD) (t2.below hW hD) (fun g hg => Nat.lt_of_lt_of_le (hD g hg) hW.size)).mono fun e w' ⟨hb, he⟩ => ⟨he, hb⟩
  have call' := Lib.hid call
  clear hf
  simp only [Nat.zero_mul, Nat.one_mul, Nat.reduceMul, Nat.reduceAdd] at x0 x1 y0 y1 z0 z1
  have hn' : n = 3 := hn
  subst hn'
  have hS : ∀ W', Below (w.heap.size + 1) (w.alloc (.cells #[.string ⟨#[]⟩, .slice (some ⟨g, 0, none⟩) 3 c] 59)) W' →
      (fun w' => w'.cell? ⟨w.heap.size, 1, none⟩ = some (.slice (some ⟨g, 0, none⟩) 3 c) ∧ w'.cell? ⟨g, 0, none⟩ = some (.string a0) ∧ w'.cell? ⟨g, 2, none⟩ = some (.string a1) ∧ w'.cell? ⟨g, 3, none⟩ = some (.slice p1 n1 c1) ∧ w'.cell? ⟨g, 4, none⟩ = some (.string a2) ∧ w'.cell? ⟨g, 5, none⟩ = some (.slice p2 n2 c2)) W' := by
    intro W' hb
    have hc : ∀ o, W'.cell? ⟨g, o, none⟩ = w.cell? ⟨g, o, none⟩ := fun o => (hb.cell (p := ⟨g, o, none⟩) (by simp; omega)).trans (World.cell?_alloc_lt w _ ⟨g, o, none⟩ hgw)
    refine ⟨?_, (hc 0).trans x0, (hc 2).trans y0, (hc 3).trans y1, (hc 4).trans z0, (hc 5).trans z1⟩
    rw [hb.cell (p := ⟨w.heap.size, 1, none⟩) (by simp)]
    exact (two_cells (heap_alloc_new w _)).2.2.1
  have hS' := Lib.hid hS
  clear hS call hp t0 t1 t2 ht hn
  go_enter Try.func37, Try.ntmps37
  go_wp2_with fail
  go_region_held3 (fun w' => w'.cell? ⟨w.heap.size, 1, none⟩ = some (.slice (some ⟨g, 0, none⟩) 3 c) ∧ w'.cell? ⟨g, 0, none⟩ = some (.string a0) ∧ w'.cell? ⟨g, 2, none⟩ = some (.string a1) ∧ w'.cell? ⟨g, 3, none⟩ = some (.slice p1 n1 c1) ∧ w'.cell? ⟨g, 4, none⟩ = some (.string a2) ∧ w'.cell? ⟨g, 5, none⟩ = some (.slice p2 n2 c2))
    (first | exact hS'.out _ (Below.refl _ _).drew | exact hS'.out _ ((Below.refl _ _).drew.trans (hb1.mono (by simp))))
    (first | (go_at_call 51; refine (call'.out.2 _ ?_).mono ?_; exact ((Below.refl _ _).alloc (Nat.le_refl _) _).drew; rintro e w1 ⟨rfl, hb1⟩))
  go_wp2_with fail
  go_ret2
  exact call'.out.1 _ (Below.trans (((Below.refl _ _).alloc (Nat.le_refl _) _).drew) (hb1.mono (by simp)))

theorem mf_not (k : Nat) (H : Hid (MF k)) (x a : T) (w : World) (D : Nat → Prop) (p : Option Addr) (c : Nat) (hk : (T.node [x, a]).sz ≤ k + 1) (s : ByteArray) (n : Nat) (ht : TC w D (.node [x, a]) s p n c) (hD : ∀ g, D g → g < w.heap.size) :
    Calls Try.prog 37 #[.agg #[.string s, .slice p n c]] w (FPost (toF (.node [x, a])) w) := by
  obtain ⟨rfl, hn, g, rfl, hg, hp⟩ := ht.part
  obtain ⟨a0, p0, n0, c0, x0, x1, t0⟩ := hp 0 x rfl
  obtain ⟨a1, p1, n1, c1, y0, y1, t1⟩ := hp 1 a rfl
  have hgw := hD g hg
  have k1 := T.sz_part (ps := [x, a]) (i := 1) (t := a) rfl
  have hn' : n = 2 := hn
  subst hn'
  simp only [Nat.zero_mul, Nat.one_mul, Nat.reduceAdd] at x0 x1 y0 y1
  have t1' := Lib.hid t1
  have hD' := Lib.hid hD
  have hb0 := t0.is [45]
  cases hfa : toF a with
  | none =>
    have hf := Lib.hid (show toF (.node [x, a]) = none from by rw [toF_not, hfa]; split <;> rfl)
    have hfa' := Lib.hid hfa
    clear hfa hb0 hp t0 t1 ht hn hD
    go_enter Try.func37, Try.ntmps37
    go_wp2_with (go_at_call 37; refine (MF.not H.out hfa'.out _ (by omega) (t1'.out.below (by exact (by repeat (with_reducible first | exact hbel | exact Below.refl _ _ | refine Below.drew ?_ | refine Below.drewN ?_ _ | refine Below.alloc ?_ (by first | (simp; done) | (simp; omega) | omega | (have := Below.size hbel; simp; omega) | (have := Below.size hbel; omega)) _ | refine Below.setCell ?_ (by first | (simp; done) | (simp; omega) | omega) _))) hD'.out) (fun g hg => by have := hD'.out g hg; simp; omega)).mono ?_; rintro e w1 ⟨rfl, hb1⟩)
    go_ret2
    exact ⟨Below.trans ((Below.refl _ _).alloc (Nat.le_refl _) _) (hb1.mono (by simp)), by rw [hf.out]; rfl⟩
  | some f =>
    have hfa' := Lib.hid hfa
    by_cases hx : atomOf x = [45]
    · have hf := Lib.hid (show toF (.node [x, a]) = some (.no f) from by rw [toF_not, hfa, if_pos hx]; rfl)
      rw [decide_eq_true hx] at hb0
      clear hfa hx hp t0 t1 ht hn hD
      go_enter Try.func37, Try.ntmps37
      go_wp2_with fail
      refine (MF.yes H.out hfa'.out _ (by omega) (t1'.out.below (by exact (by repeat (with_reducible first | exact hbel | exact Below.refl _ _ | refine Below.drew ?_ | refine Below.drewN ?_ _ | refine Below.alloc ?_ (by first | (simp; done) | (simp; omega) | omega | (have := Below.size hbel; simp; omega) | (have := Below.size hbel; omega)) _ | refine Below.setCell ?_ (by first | (simp; done) | (simp; omega) | omega) _))) hD'.out) (fun g hg => by have := hD'.out g hg; simp; omega)).mono ?_
      rintro e w1 ⟨rfl, hb1⟩
      have hb1' := Lib.hid hb1
      have q0 : w1.cell? ⟨g, 0, none⟩ = some (.string a0) := (hb1.cell (p := ⟨g, 0, none⟩) (by simp; omega)).trans ((World.cell?_alloc_lt w _ ⟨g, 0, none⟩ hgw).trans x0)
      obtain ⟨z0, r0, r1, -, -⟩ := two_cells ((hb1.block w.heap.size (by simp)).trans (heap_alloc_new w _))
      clear hb1
      go_wp2_with fail
      go_ret2
      exact ⟨Below.trans ((Below.refl _ _).alloc (Nat.le_refl _) _) (hb1'.out.mono (by simp)), by rw [hf.out]; rfl⟩
    · have hf := Lib.hid (show toF (.node [x, a]) = none from by rw [toF_not, hfa, if_neg hx])
      rw [decide_eq_false hx] at hb0
      clear hfa hx hp t0 t1 ht hn hD
      go_enter Try.func37, Try.ntmps37
      go_wp2_with fail
      refine (MF.yes H.out hfa'.out _ (by omega) (t1'.out.below (by exact (by repeat (with_reducible first | exact hbel | exact Below.refl _ _ | refine Below.drew ?_ | refine Below.drewN ?_ _ | refine Below.alloc ?_ (by first | (simp; done) | (simp; omega) | omega | (have := Below.size hbel; simp; omega) | (have := Below.size hbel; omega)) _ | refine Below.setCell ?_ (by first | (simp; done) | (simp; omega) | omega) _))) hD'.out) (fun g hg => by have := hD'.out g hg; simp; omega)).mono ?_
      rintro e w1 ⟨rfl, hb1⟩
      have hb1' := Lib.hid hb1
      have q0 : w1.cell? ⟨g, 0, none⟩ = some (.string a0) := (hb1.cell (p := ⟨g, 0, none⟩) (by simp; omega)).trans ((World.cell?_alloc_lt w _ ⟨g, 0, none⟩ hgw).trans x0)
      obtain ⟨z0, r0, r1, -, -⟩ := two_cells ((hb1.block w.heap.size (by simp)).trans (heap_alloc_new w _))
      clear hb1
      go_wp2_with fail
      go_ret2
      exact ⟨Below.trans ((Below.refl _ _).alloc (Nat.le_refl _) _) (hb1'.out.mono (by simp)), by rw [hf.out]; rfl⟩

theorem makeFormula_all : ∀ k, MF k := by
  intro k
  induction k with
  | zero => intro t w D a p n c hk; have := t.sz_pos; omega
  | succ k ih =>
    intro t w D a p n c hk ht hD
    match t, hk, ht with
    | .atom s, _, ht =>
      rw [TC] at ht
      obtain ⟨_, rfl, rfl, rfl, rfl⟩ := ht
      exact mf_atom s w
    | .node [], _, ht =>
      obtain ⟨rfl, hn, g, rfl, _⟩ := ht.part
      rw [toF_nil]
      exact mf_other _ _ _ w (by simp at hn; omega) (by simp at hn; omega)
    | .node [x], _, ht =>
      obtain ⟨rfl, hn, g, rfl, _⟩ := ht.part
      rw [toF_one]
      exact mf_other _ _ _ w (by simp at hn; omega) (by simp at hn; omega)
    | .node [x, a], hk, ht => exact mf_not k ih x a w D p c hk _ _ ht hD
    | .node [x, a, b], hk, ht => exact mf_pair k ih x a b w D p c hk _ _ ht hD
    | .node (x :: y :: z :: u :: r), _, ht =>
      obtain ⟨rfl, hn, g, rfl, _⟩ := ht.part
      rw [toF_many]
      exact mf_other _ _ _ w (by simp at hn; omega) (by simp at hn; omega)

end Go.Proofs.Ytagafoldkfgikaa
