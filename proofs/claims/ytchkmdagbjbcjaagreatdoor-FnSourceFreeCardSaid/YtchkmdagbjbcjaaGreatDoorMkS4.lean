/- impl.makeSource. -/
import Derived.Test.YtchkmdagbjbcjaaGreatDoorMkS2t
import Derived.Test.YtchkmdagbjbcjaaGreatDoorMkS3
namespace Go.Proofs.YtchkmdagbjbcjaaGreatDoor
set_option linter.unusedVariables false
open Go.RowKit
set_option maxRecDepth 100000

theorem goodAll_mem : ∀ {ps : List T}, goodAll ps = true → ∀ t ∈ ps, t.good = true
  | [], _, t, h => by cases h
  | p :: ps, hg, t, h => by
    rw [goodAll, Bool.and_eq_true] at hg
    rcases List.mem_cons.1 h with rfl | h
    · exact hg.1
    · exact goodAll_mem hg.2 t h

theorem MSP.v {s : Bs} {a : ByteArray} (ha : a.data.toList = s) {w w1 w2 : World} {c : UInt8} {d : Bs} {x : Value} (hw : Below w.heap.size w w2) (hn : EO w1 (fun _ => False) (nameB varB a.data.toList) x) (hcd : nameB varB a.data.toList = true → a.data.toList = c :: d) :
    MSP (toSrc (.atom s)) w (.returned (.tuple #[.iface 81 (nameV c d), x])) w2 := by
  refine ⟨hw, _, _, rfl, .inr ⟨_, _, rfl⟩, ?_⟩
  rw [ha] at hn hcd
  rw [toSrc_atom]
  unfold isVar
  cases h : nameB varB s
  · rw [h] at hn
    exact EV.keep hn (fun g hg => hg.elim) (fun g hg => hg.elim)
  · rw [h] at hn
    have := hcd h
    subst this
    exact ⟨rfl, hn⟩

set_option maxHeartbeats 2000000 in
theorem ms_atom (s : Bs) (hg : (T.atom s).good = true) (w : World) : Calls Tryz.prog 29 #[.agg #[.string ⟨s.toArray⟩, .slice none 0 0]] w (MSP (toSrc (.atom s)) w) := by
  have hname := Lib.hid (fun W => nameOf_any ⟨#[120, 121, 122]⟩ varB (fun c => idx3 c) ⟨s.toArray⟩ (good_bytes hg rfl) W)
  go_enter Tryz.func29, Tryz.ntmps29
  go_wp2_with fail
  refine Calls.mono (hname.out _) ?_
  rintro e w1 ⟨hb1, nv, ne, rfl, hn⟩
  obtain ⟨hne, c0, d0, rfl, hcd⟩ := NOPost.eo hn
  clear hn
  have hne' := Lib.hid hne
  have hcd' := Lib.hid hcd
  have hb1' := Lib.hid hb1
  clear hne hcd hb1
  go_wp2_with fail
  go_ret2
  exact MSP.v (a := ⟨s.toArray⟩) rfl (bb_alloc (below_step ((Below.refl _ _).alloc (Nat.le_refl _) _) (by simp) hb1'.out) _) hne'.out hcd'.out

theorem MSP.up {o : Option Src} {w W w' : World} {e : Ending} (h : MSP o W e w') (hW : Below w.heap.size w W) : MSP o w e w' := by
  obtain ⟨hb, x, y, he, hx, ho⟩ := h
  refine ⟨below_step hW (Nat.le_refl _) hb, x, y, he, hx, ?_⟩
  cases o with
  | none => exact ho.new hW.size
  | some m => exact ho

theorem makeTwo_any (k : Nat) (H : Hid (MS k)) (h : Bs) (t u : T) (w : World) (D : Nat → Prop) (a b : ByteArray) (p q : Option Addr) (n m c d : Nat) (hk1 : t.sz ≤ k) (hk : u.sz ≤ k) (hg1 : t.good = true) (hg : u.good = true) (ht : TC w D t a p n c) (hu : TC w D u b q m d) (hD : ∀ g, D g → g < w.heap.size) :
    Calls Tryz.prog 45 #[str h, .agg #[.string a, .slice p n c], .agg #[.string b, .slice q m d]] w (MSP (if isNb h = true then mkSb h (atomOf t) (toSrc u) else if h2B h = true then mkS2 h (toSrc t) (toSrc u) else none) w) := by
  cases e1 : (h == [108, 97, 109]) with
  | true =>
    obtain rfl := eq_of_beq e1
    exact makeTwo_lam k H t u w D a b p q n m c d hk hg1 hg ht hu hD
  | false =>
    cases e2 : (h == [99, 97, 116, 99, 104]) with
    | true =>
      obtain rfl := eq_of_beq e2
      exact makeTwo_catch k H t u w D a b p q n m c d hk hg1 hg ht hu hD
    | false =>
      cases e3 : (h == [116, 104, 114, 111, 119]) with
      | true =>
        obtain rfl := eq_of_beq e3
        exact makeTwo_throw k H t u w D a b p q n m c d hk hg1 hg ht hu hD
      | false =>
        rw [if_neg (by simp only [isNb, lamB, catchB, throwB, e1, e2, e3]; decide)]
        cases e4 : (h == [97, 112, 112]) with
        | true =>
          obtain rfl := eq_of_beq e4
          exact makeTwo_app k H t u w D a b p q n m c d hk1 hk hg1 hg ht hu hD
        | false =>
          cases e5 : (h == [98, 111, 116, 104]) with
          | true =>
            obtain rfl := eq_of_beq e5
            exact makeTwo_both k H t u w D a b p q n m c d hk1 hk hg1 hg ht hu hD
          | false =>
            rw [if_neg (by simp only [h2B, appB, bothB, e4, e5]; decide)]
            exact makeTwo_no k H h e1 e2 e3 e4 e5 t u w D a b p q n m c d hk1 hk hg1 hg ht hu hD

set_option maxHeartbeats 2000000 in
theorem ms_node (k : Nat) (H : Hid (MS k)) (x : T) (ts : List T) (w : World) (D : Nat → Prop) (p : Option Addr) (c : Nat) (hk : (T.node (x :: ts)).sz ≤ k + 1) (hgood : (T.node (x :: ts)).good = true) (s : ByteArray) (n : Nat) (ht : TC w D (.node (x :: ts)) s p n c) (hD : ∀ g, D g → g < w.heap.size) :
    Calls Tryz.prog 29 #[.agg #[.string s, .slice p n c]] w (MSP (toSrc (.node (x :: ts))) w) := by
  obtain ⟨rfl, hn, g, rfl, hg, hp⟩ := ht.part
  obtain ⟨a0, p0, n0, c0, x0, x1, t0⟩ := hp 0 x rfl
  have hgw := hD g hg
  simp only [Nat.zero_mul, Nat.zero_add] at x0 x1
  have hta := t0.textA
  have hcap := ht.cap
  have hn' : n = ts.length + 1 := by simpa using hn
  subst hn'
  have hgl := goodAll_mem (ps := x :: ts) (by rw [T.good, Bool.and_eq_true] at hgood; exact hgood.2)
  have hkk : ∀ t ∈ ts, t.sz ≤ k := fun t hm => by
    obtain ⟨i, hi⟩ := List.getElem?_of_mem hm
    have := T.sz_part (ps := x :: ts) (i := i + 1) (t := t) (by simpa using hi)
    omega
  have hh : a0 = ⟨(atomOf x).toArray⟩ := hta
  have hx : ∃ h, h = atomOf x := ⟨_, rfl⟩
  obtain ⟨h, hx⟩ := hx
  rw [← hx] at hh
  subst hh
  have hW0 := Lib.hid (fun X => ((Below.refl w.heap.size w).alloc (Nat.le_refl _) X))
  match ts, hp, hkk, hgl, hcap with
  | [], _, _, _, hcap =>
    rw [toSrc_one]
    have hfin := Lib.hid (fun W hW => MSP.no (w := w) (w' := W) ⟨h.toArray⟩ hW (.inl rfl))
    clear hD hp t0 hta ht hn hgl hkk hx
    go_enter Tryz.func29, Tryz.ntmps29
    go_wp2_with fail
    go_quiet (fail)
    go_wp2_with fail
    all_goals
      go_ret2
      exact hfin.out _ (by repeat (with_reducible first | exact hbel | exact Below.refl _ _ | refine Below.drew ?_ | refine Below.drewN ?_ _ | refine Below.alloc ?_ (by first | (simp; done) | (simp; omega) | omega | (have := Below.size hbel; simp; omega) | (have := Below.size hbel; omega)) _ | refine Below.setCell ?_ (by first | (simp; done) | (simp; omega) | omega) _))
  | [y], hp, hkk, hgl, hcap =>
    obtain ⟨a1, p1, n1, c1, y0, y1, t1⟩ := hp 1 y rfl
    simp only [Nat.one_mul, Nat.reduceAdd] at y0 y1
    have hcap2 : 2 ≤ c := by simpa using hcap
    have hcn : ¬ c - 1 = 0 := by omega
    have hcn1 : ¬ c = 1 := by omega
    have hcn2 : ¬ c ≤ 1 := by omega
    have call := Lib.hid (fun W (hW : Below w.heap.size w W) => makeOne_any k H h y W D a1 p1 n1 c1 (hkk y (by simp)) (hgl y (by simp)) (t1.below hW hD) (fun g hg => Nat.lt_of_lt_of_le (hD g hg) hW.size))
    rw [toSrc_two]
    rw [← hx]
    generalize hoo : (if h1B h = true then mkS1 h (toSrc y) else none) = o at *
    clear hD hp t0 hta ht hn hgl hkk t1 hoo hx
    go_enter Tryz.func29, Tryz.ntmps29
    go_wp2_with fail
    go_quiet (fail)
    go_wp2_with fail
    all_goals
      refine Calls.mono (call.out _ (by repeat (with_reducible first | exact hbel | exact Below.refl _ _ | refine Below.drew ?_ | refine Below.drewN ?_ _ | refine Below.alloc ?_ (by first | (simp; done) | (simp; omega) | omega | (have := Below.size hbel; simp; omega) | (have := Below.size hbel; omega)) _ | refine Below.setCell ?_ (by first | (simp; done) | (simp; omega) | omega) _))) ?_
      rintro e w1 hm
      obtain ⟨hb1, X, Y, rfl, hX, ho⟩ := hm.up (w := w) (by repeat (with_reducible first | exact hbel | exact Below.refl _ _ | refine Below.drew ?_ | refine Below.drewN ?_ _ | refine Below.alloc ?_ (by first | (simp; done) | (simp; omega) | omega | (have := Below.size hbel; simp; omega) | (have := Below.size hbel; omega)) _ | refine Below.setCell ?_ (by first | (simp; done) | (simp; omega) | omega) _))
      have hfin := Lib.hid (show MSP o w (.returned (.tuple #[X, Y])) w1 from ⟨hb1, X, Y, rfl, hX, ho⟩)
      clear ho hX hm
      go_wp2_with fail
      go_ret2
      exact hfin.out
  | [y, z], hp, hkk, hgl, hcap =>
    obtain ⟨a1, p1, n1, c1, y0, y1, t1⟩ := hp 1 y rfl
    obtain ⟨a2, p2, n2, c2, u0, u1, t2⟩ := hp 2 z rfl
    simp only [Nat.one_mul, Nat.reduceMul, Nat.reduceAdd] at y0 y1 u0 u1
    have hcap2 : 3 ≤ c := by simpa using hcap
    have hcn : ¬ c - 1 = 0 := by omega
    have hcn1 : ¬ c = 1 := by omega
    have hcn2 : ¬ c ≤ 1 := by omega
    have call := Lib.hid (fun W (hW : Below w.heap.size w W) => makeTwo_any k H h y z W D a1 a2 p1 p2 n1 n2 c1 c2 (hkk y (by simp)) (hkk z (by simp)) (hgl y (by simp)) (hgl z (by simp)) (t1.below hW hD) (t2.below hW hD) (fun g hg => Nat.lt_of_lt_of_le (hD g hg) hW.size))
    have hS := Lib.hid (fun W (hW : Below w.heap.size w W) => (show W.cell? ⟨g, 2, none⟩ = some (.string a1) ∧ W.cell? ⟨g, 3, none⟩ = some (.slice p1 n1 c1) ∧ W.cell? ⟨g, 4, none⟩ = some (.string a2) ∧ W.cell? ⟨g, 5, none⟩ = some (.slice p2 n2 c2) from
      ⟨(hW.cell (p := ⟨g, 2, none⟩) hgw).trans y0, (hW.cell (p := ⟨g, 3, none⟩) hgw).trans y1, (hW.cell (p := ⟨g, 4, none⟩) hgw).trans u0, (hW.cell (p := ⟨g, 5, none⟩) hgw).trans u1⟩))
    rw [toSrc_three, ← hx]
    generalize hoo : (if isNb h = true then mkSb h (atomOf y) (toSrc z) else if h2B h = true then mkS2 h (toSrc y) (toSrc z) else none) = o at *
    clear hD hp t0 hta ht hn hgl hkk t1 t2 hoo hx
    go_enter Tryz.func29, Tryz.ntmps29
    go_wp2_with fail
    go_quiet (fail)
    go_wp2_with fail
    go_region_held3 (fun W' => W'.cell? ⟨g, 2, none⟩ = some (.string a1) ∧ W'.cell? ⟨g, 3, none⟩ = some (.slice p1 n1 c1) ∧ W'.cell? ⟨g, 4, none⟩ = some (.string a2) ∧ W'.cell? ⟨g, 5, none⟩ = some (.slice p2 n2 c2)) (first | exact hS.out _ (by repeat (with_reducible first | exact Below.refl _ _ | exact hbb | refine Below.drew ?_ | refine Below.drewN ?_ _ | refine bb_alloc ?_ _ | refine below_step ?_ (Nat.le_refl _) hb1 | refine below_step ?_ (Nat.le_refl _) hb2 | refine below_step ?_ (Nat.le_refl _) hb3 | refine below_step ?_ (Nat.le_refl _) hb4)))
      (first | (go_at_call 45; refine Calls.mono (call.out _ (by repeat (with_reducible first | exact Below.refl _ _ | exact hbb | refine Below.drew ?_ | refine Below.drewN ?_ _ | refine bb_alloc ?_ _ | refine below_step ?_ (Nat.le_refl _) hb1 | refine below_step ?_ (Nat.le_refl _) hb2 | refine below_step ?_ (Nat.le_refl _) hb3 | refine below_step ?_ (Nat.le_refl _) hb4))) ?_; rintro e w1 hm; obtain ⟨hb1, X, Y, rfl, hX, ho⟩ := hm.up (w := w) (by repeat (with_reducible first | exact Below.refl _ _ | exact hbb | refine Below.drew ?_ | refine Below.drewN ?_ _ | refine bb_alloc ?_ _ | refine below_step ?_ (Nat.le_refl _) hb1 | refine below_step ?_ (Nat.le_refl _) hb2 | refine below_step ?_ (Nat.le_refl _) hb3 | refine below_step ?_ (Nat.le_refl _) hb4)); have hfin := Lib.hid (show MSP o w (.returned (.tuple #[X, Y])) w1 from ⟨hb1, X, Y, rfl, hX, ho⟩); clear ho hX hm))
    all_goals
      go_wp2_with fail
      go_ret2
      exact hfin.out
  | y :: z :: u :: r, _, _, _, hcap =>
    rw [toSrc_many]
    have hfin := Lib.hid (fun W hW => MSP.no (w := w) (w' := W) ⟨h.toArray⟩ hW (.inl rfl))
    have hl1 : ((((y :: z :: u :: r).length + 1 : Nat) : Int) == 0) = false := by rw [beq_eq_false_iff_ne]; omega
    have hlen : 3 ≤ (y :: z :: u :: r).length := by simp
    have hcap2 : (y :: z :: u :: r).length + 1 ≤ c := by simpa using hcap
    generalize (y :: z :: u :: r).length = l at *
    have hcn : ¬ c - 1 = 0 := by omega
    have hcn1 : ¬ c = 1 := by omega
    have hcn2 : ¬ c ≤ 1 := by omega
    have hl3 : ((l : Int) == 1) = false := by rw [beq_eq_false_iff_ne]; omega
    have hl4 : ((l : Int) == 2) = false := by rw [beq_eq_false_iff_ne]; omega
    clear hD hp t0 hta ht hn hx
    go_enter Tryz.func29, Tryz.ntmps29
    go_wp2_with fail
    go_quiet (fail)
    go_wp2_with fail
    all_goals
      go_ret2
      exact hfin.out _ (by repeat (with_reducible first | exact hbel | exact Below.refl _ _ | refine Below.drew ?_ | refine Below.drewN ?_ _ | refine Below.alloc ?_ (by first | (simp; done) | (simp; omega) | omega | (have := Below.size hbel; simp; omega) | (have := Below.size hbel; omega)) _ | refine Below.setCell ?_ (by first | (simp; done) | (simp; omega) | omega) _))

theorem ms_all : ∀ k, MS k := by
  intro k
  induction k with
  | zero => intro t w D a p n c hk; have := t.sz_pos; omega
  | succ k ih =>
    intro t w D a p n c hk hg ht hD
    match t, hk, hg, ht with
    | .atom s, _, hg, ht =>
      rw [TC] at ht
      obtain ⟨hs, rfl, rfl, rfl, rfl⟩ := ht
      exact ms_atom s hg w
    | .node [], _, hg, _ => rw [T.good] at hg; cases hg
    | .node (x :: ts), hk, hg, ht => exact ms_node k (Lib.hid ih) x ts w D p c hk hg a n ht hD

end Go.Proofs.YtchkmdagbjbcjaaGreatDoor
