/- A machine's noValue and isValue. -/
import Derived.Test.YtijplnaoecoblaaMch1V
import Derived.Test.YtijplnaoecoblaaFirstNo
import Derived.Test.YtijplnaoecoblaaAssert
namespace Go.Proofs.Ytijplnaoecoblaa
set_option linter.unusedVariables false
open Go.RowKit
set_option maxRecDepth 100000

def ISVV (p : P) : Prop := ∀ (w : World) (D : Nat → Prop) (x M0 M1 : Value), PI w D p x → (∀ g, D g → g < w.heap.size) →
  Calls Try.prog 18 #[.agg #[M0, M1], .iface (pt p) x] w fun e w' => e = .returned (.bool p.val) ∧ Below w.heap.size w w'

theorem cloV (p : P) (H : Hid (ISVV p)) (w : World) (D : Nat → Prop) (x M0 M1 : Value) (b : Nat) (hx : PI w D p x) (hD : ∀ g, D g → g < w.heap.size) (h0 : w.cell? ⟨b, 0, none⟩ = some M0) (h1 : w.cell? ⟨b, 1, none⟩ = some M1) :
    Calls Try.prog 44 #[.iface (pt p) x, .pointer (some ⟨b, 0, none⟩)] w fun e w' => e = .returned (.bool (!p.val)) ∧ Below w.heap.size w w' := by
  have hc := Lib.hid (fun W (hW : Below w.heap.size w W) => H.out W D x M0 M1 (hx.below hW hD) (fun g hg => Nat.lt_of_lt_of_le (hD g hg) hW.size))
  generalize p.val = v at hc ⊢
  generalize pt p = t at hc ⊢
  clear hx hD
  go_enter Try.func44, Try.ntmps44
  go_wp2_with (go_at_call 18; refine Calls.mono (hc.out _ (by repeat (with_reducible first | exact hbel | exact Below.refl _ _ | refine Below.drew ?_ | refine Below.drewN ?_ _ | refine Below.alloc ?_ (by first | (simp; done) | (simp; omega) | omega | (have := Below.size hbel; simp; omega) | (have := Below.size hbel; omega)) _ | refine Below.setCell ?_ (by first | (simp; done) | (simp; omega) | omega) _))) ?_; rintro e w1 ⟨rfl, hb1⟩)
  go_ret
  exact ⟨rfl, below_step (by repeat (with_reducible first | exact hbel | exact Below.refl _ _ | refine Below.drew ?_ | refine Below.drewN ?_ _ | refine Below.alloc ?_ (by first | (simp; done) | (simp; omega) | omega | (have := Below.size hbel; simp; omega) | (have := Below.size hbel; omega)) _ | refine Below.setCell ?_ (by first | (simp; done) | (simp; omega) | omega) _)) (by simp) hb1⟩

theorem idxV (ks : List P) (hk : ∀ q ∈ ks, Hid (ISVV q)) (hl : ks.length ≤ 2) (g n b : Nat) (w : World) (D : Nat → Prop) (M0 M1 : Value) (hD : ∀ g, D g → g < w.heap.size) (hg : g < w.heap.size)
    (hc : ∀ (i : Nat) (q : P), ks[i]? = some q → ∃ y, w.cell? ⟨g, i, none⟩ = some (.iface (pt q) y) ∧ PI w D q y) (hb : b < w.heap.size) (h0 : w.cell? ⟨b, 0, none⟩ = some M0) (h1 : w.cell? ⟨b, 1, none⟩ = some M1) :
    Calls Try.prog 43 #[.slice (some ⟨g, 0, none⟩) ks.length n, .func (.func 44) #[] #[.pointer (some ⟨b, 0, none⟩)]] w fun e w' => e = .returned (.int .i64 (firstNo (ks.map P.val))) ∧ Below w.heap.size w w' := by
  have hk' := Lib.hid hk
  have hD' := Lib.hid hD
  have hc' := Lib.hid hc
  have hcl := Lib.hid (fun (j : Nat) (q : P) (hq : ks[j]? = some q) (y : Value) (hy : PI w D q y) (W : World) (hW : Below w.heap.size w W) => cloV q (hk q (List.mem_of_getElem? hq)) W D y M0 M1 b (hy.below hW hD) (fun g hg => Nat.lt_of_lt_of_le (hD g hg) hW.size) ((hW.cell (p := ⟨b, 0, none⟩) hb).trans h0) ((hW.cell (p := ⟨b, 1, none⟩) hb).trans h1))
  clear hk hD hc h0 h1
  go_enter Try.func43, Try.ntmps43
  go_wp2_with fail
  go_loopw [5, 8] (fun u i wr => ∃ j : Nat, j ≤ ks.length ∧ i = .int .i64 j ∧ (∀ k, k < j → (ks.map P.val)[k]? = some true) ∧ Below w.heap.size w wr ∧ ∃ u', u' = u) (fun _ i _ => ks.length - (intOf i).toNat)
  case atStart => exact ⟨0, Nat.zero_le _, rfl, fun k hk => by omega, Below.refl _ _, _, rfl⟩
  case round =>
    obtain ⟨j, hj, rfl, hall, hbel, u', rfl⟩ := hrel
    have hbel' := Lib.hid hbel
    have hall' := Lib.hid hall
    by_cases hlt : j < ks.length
    · obtain ⟨q, hq⟩ : ∃ q, ks[j]? = some q := ⟨ks[j], List.getElem?_eq_getElem _⟩
      obtain ⟨y, hy, hpi⟩ := hc'.out j q hq
      have hy1 := (hbel.cell (p := ⟨g, j, none⟩) hg).trans hy
      have hcall := Lib.hid (hcl.out j q hq y hpi wr hbel)
      have hmap := Lib.hid (show (ks.map P.val)[j]? = some q.val from by rw [List.getElem?_map, hq]; rfl)
      generalize q.val = v at hcall hmap
      generalize pt q = t at hcall hy1
      clear hy hpi hq hbel hall
      cases v
      · have hres := Lib.hid (firstNo_at hmap.out hall'.out)
        go_wp2_with (go_at_call 44; refine Calls.mono hcall.out ?_; rintro e w1 ⟨rfl, hb1⟩)
        go_ret
        exact ⟨ret_int hres.out.symm, below_step hbel'.out (Nat.le_refl _) hb1⟩
      · go_wp2_with (go_at_call 44; refine Calls.mono hcall.out ?_; rintro e w1 ⟨rfl, hb1⟩)
        go_roundw
        case rel => exact ⟨j + 1, by omega, by go_num, fun k hk => by rcases Nat.lt_or_eq_of_le (Nat.le_of_lt_succ hk) with h | h; exact hall'.out k h; subst h; exact hmap.out, below_step hbel'.out (Nat.le_refl _) hb1, _, rfl⟩
        case measure => simp [intOf]; omega
    · have e : j = ks.length := by omega
      subst e
      have hres := Lib.hid (firstNo_all (l := ks.map P.val) (fun b hb => by
        obtain ⟨i, hi⟩ := List.getElem?_of_mem hb
        have hlt : i < ks.length := by rcases Nat.lt_or_ge i ks.length with h | h; exact h; rw [List.getElem?_eq_none (by simpa using h)] at hi; cases hi
        rw [hall i hlt] at hi; injection hi with hi; exact hi.symm))
      clear hall hbel
      go_wp2_with fail
      go_ret
      exact ⟨ret_int hres.out.symm, hbel'.out⟩

theorem novV (ks : List P) (hk : ∀ q ∈ ks, Hid (ISVV q)) (hl : ks.length ≤ 2) (g n : Nat) (w : World) (D : Nat → Prop) (M0 M1 : Value) (hD : ∀ g, D g → g < w.heap.size) (hg : g < w.heap.size)
    (hc : ∀ (i : Nat) (q : P), ks[i]? = some q → ∃ y, w.cell? ⟨g, i, none⟩ = some (.iface (pt q) y) ∧ PI w D q y) :
    Calls Try.prog 30 #[.agg #[M0, M1], .slice (some ⟨g, 0, none⟩) ks.length n] w fun e w' => e = .returned (.int .i64 (firstNo (ks.map P.val))) ∧ Below w.heap.size w w' := by
  have hbx := heap_alloc_new w (.cells #[M0, M1] 47)
  obtain ⟨z0, r0, r1, -, -⟩ := two_cells hbx
  have hW : Below w.heap.size w (w.alloc (.cells #[M0, M1] 47)) := (Below.refl _ _).alloc (Nat.le_refl _) _
  have hcall := Lib.hid (idxV ks hk hl g n w.heap.size (w.alloc (.cells #[M0, M1] 47)) D M0 M1 (fun g hg => Nat.lt_of_lt_of_le (hD g hg) hW.size) (Nat.lt_of_lt_of_le hg hW.size)
    (fun i q hi => by obtain ⟨y, h1, h2⟩ := hc i q hi; exact ⟨y, (hW.cell (p := ⟨g, i, none⟩) hg).trans h1, h2.below hW hD⟩) z0 r0 r1)
  have hmf : ∀ (fn : Fn) (first cap : Array Value) (w : World), (Instr.makeFunc fn first cap).run Try.prog w = .ok (.func fn first cap) w := fun _ _ _ _ => rfl
  have hW' := Lib.hid hW
  clear hk hD hc hbx z0 r0 r1 hW
  generalize firstNo (ks.map P.val) = v at hcall ⊢
  go_enter Try.func30, Try.ntmps30
  go_wp2_with (go_at_call 43; refine Calls.mono hcall.out ?_; rintro e w1 ⟨rfl, hb1⟩)
  go_ret
  exact ⟨rfl, below_step hW'.out (by simp) hb1⟩

theorem isvV_nm (s : Bs) : ISVV (.nm s) := by
  intro w D x M0 M1 hx hD
  obtain ⟨c, d, rfl, rfl⟩ := hx
  have h1 := ta_variable_variable
  have h2 := ta_variable_covariable
  have h3 := ta_variable_form
  have h4 := ta_covariable_variable
  have h5 := ta_covariable_covariable
  have h6 := ta_covariable_form
  cases hv : firstIs varB (c :: d)
  · rw [show pt (.nm (c :: d)) = 53 from by simp [pt, hv], show (P.nm (c :: d)).val = false from by simp [P.val, hv]]
    clear hv
    go_enter Try.func18, Try.ntmps18
    go_wp2_with fail
    go_ret
    exact ⟨rfl, (by repeat (with_reducible first | exact hbel | exact Below.refl _ _ | refine Below.drew ?_ | refine Below.drewN ?_ _ | refine Below.alloc ?_ (by first | (simp; done) | (simp; omega) | omega | (have := Below.size hbel; simp; omega) | (have := Below.size hbel; omega)) _ | refine Below.setCell ?_ (by first | (simp; done) | (simp; omega) | omega) _))⟩
  · rw [show pt (.nm (c :: d)) = 52 from by simp [pt, hv], show (P.nm (c :: d)).val = true from by simp [P.val, hv]]
    clear hv
    go_enter Try.func18, Try.ntmps18
    go_wp2_with fail
    go_ret
    exact ⟨rfl, (by repeat (with_reducible first | exact hbel | exact Below.refl _ _ | refine Below.drew ?_ | refine Below.drewN ?_ _ | refine Below.alloc ?_ (by first | (simp; done) | (simp; omega) | omega | (have := Below.size hbel; simp; omega) | (have := Below.size hbel; omega)) _ | refine Below.setCell ?_ (by first | (simp; done) | (simp; omega) | omega) _))⟩

theorem isvV_bd (s : Bs) (b : P) : ISVV (.bd s b) := by
  intro w D x M0 M1 hx hD
  obtain ⟨c, d, y, rfl, rfl, -⟩ := hx
  rw [show (P.bd (c :: d) b).val = false from rfl, show pt (.bd (c :: d) b) = 93 from rfl]
  have h1 := ta_binder_variable
  have h2 := ta_binder_form
  generalize pt b = t
  go_enter Try.func18, Try.ntmps18
  go_wp2_with fail
  go_ret
  exact ⟨rfl, (by repeat (with_reducible first | exact hbel | exact Below.refl _ _ | refine Below.drew ?_ | refine Below.drewN ?_ _ | refine Below.alloc ?_ (by first | (simp; done) | (simp; omega) | omega | (have := Below.size hbel; simp; omega) | (have := Below.size hbel; omega)) _ | refine Below.setCell ?_ (by first | (simp; done) | (simp; omega) | omega) _))⟩

set_option maxHeartbeats 1000000 in
theorem isvV_form (p : P) (h : Bs) (ks : List P) (hf : IsForm p h ks) (hk : ∀ q ∈ ks, Hid (ISVV q)) (w : World) (D : Nat → Prop) (x M0 M1 : Value) (hx : PI w D p x) (hD : ∀ g, D g → g < w.heap.size) (hpt : pt p = 66) :
    Calls Try.prog 18 #[.agg #[M0, M1], .iface (pt p) x] w fun e w' => e = .returned (.bool (formVal h (ks.map P.val))) ∧ Below w.heap.size w w' := by
  obtain ⟨g, n, rfl, hg, hc⟩ := hx.form hf
  have hgw := hD g hg
  have hks := hf.len
  have hcl := Lib.hid (fun W (hW : Below w.heap.size w W) => novV ks hk hks.2 g n W D M0 M1 (fun g hg => Nat.lt_of_lt_of_le (hD g hg) hW.size) (Nat.lt_of_lt_of_le hgw hW.size)
    (fun i q hi => by obtain ⟨y, h1, h2⟩ := hc i q hi; exact ⟨y, (hW.cell (p := ⟨g, i, none⟩) hgw).trans h1, h2.below hW hD⟩))
  have hhd := Lib.hid (fun W => headV M0 M1 ⟨h.toArray⟩ W)
  rw [hpt]
  generalize ks.map P.val = vs at hcl ⊢
  generalize ks.length = len at *
  have h1 := ta_form_variable
  have h2 := ta_form_form
  obtain ⟨h', rfl⟩ : ∃ h', h' = h := ⟨_, rfl⟩
  clear hk hD hc hx hf hpt
  by_cases hA : h' = [112, 97, 105, 114] ∨ h' = [105, 110, 108] ∨ h' = [105, 110, 114]
  · have hr := Lib.hid (show formVal h' vs = decide (firstNo vs < 0) from if_pos hA)
    rcases hA with rfl | rfl | rfl
    all_goals
      go_enter Try.func18, Try.ntmps18
      go_wp2_with (first
        | (go_at_call 29; refine Calls.mono (hhd.out _) ?_; rintro e w1 ⟨rfl, hb1⟩; obtain ⟨z0, r0, r1, -, -⟩ := two_cells ((hb1.block w.heap.size (by simp; omega)).trans (first_alloc w _ _)); obtain ⟨z1, s0, s1, -, -⟩ := two_cells ((hb1.block (w.heap.size + 1) (by simp)).trans (second_alloc w _ _)))
        | (go_at_call 30; refine Calls.mono (hcl.out _ (below_step (by repeat (with_reducible first | exact hbel | exact Below.refl _ _ | refine Below.drew ?_ | refine Below.drewN ?_ _ | refine Below.alloc ?_ (by first | (simp; done) | (simp; omega) | omega | (have := Below.size hbel; simp; omega) | (have := Below.size hbel; omega)) _ | refine Below.setCell ?_ (by first | (simp; done) | (simp; omega) | omega) _)) (by simp) hb1)) ?_; rintro e w2 ⟨rfl, hb2⟩))
      go_ret
      exact ⟨ret_bool hr.out.symm, below_step (below_step (by repeat (with_reducible first | exact hbel | exact Below.refl _ _ | refine Below.drew ?_ | refine Below.drewN ?_ _ | refine Below.alloc ?_ (by first | (simp; done) | (simp; omega) | omega | (have := Below.size hbel; simp; omega) | (have := Below.size hbel; omega)) _ | refine Below.setCell ?_ (by first | (simp; done) | (simp; omega) | omega) _)) (by simp) hb1) (Nat.le_refl _) hb2⟩
  · have hr := Lib.hid (show formVal h' vs = decide (h' = notB) from if_neg hA)
    by_cases hB : h' = [110, 111, 116]
    · have hr' := Lib.hid (hr.out.trans (decide_eq_true hB))
      subst hB
      clear hA
      go_enter Try.func18, Try.ntmps18
      go_wp2_with (go_at_call 29; refine Calls.mono (hhd.out _) ?_; rintro e w1 ⟨rfl, hb1⟩)
      go_ret
      exact ⟨ret_bool hr'.out.symm, below_step (by repeat (with_reducible first | exact hbel | exact Below.refl _ _ | refine Below.drew ?_ | refine Below.drewN ?_ _ | refine Below.alloc ?_ (by first | (simp; done) | (simp; omega) | omega | (have := Below.size hbel; simp; omega) | (have := Below.size hbel; omega)) _ | refine Below.setCell ?_ (by first | (simp; done) | (simp; omega) | omega) _)) (by simp) hb1⟩
    · have hr' := Lib.hid (hr.out.trans (decide_eq_false hB))
      have e1 : (h' == [112, 97, 105, 114]) = false := by rw [beq_eq_false_iff_ne]; intro e; exact hA (.inl e)
      have e2 : (h' == [105, 110, 108]) = false := by rw [beq_eq_false_iff_ne]; intro e; exact hA (.inr (.inl e))
      have e3 : (h' == [105, 110, 114]) = false := by rw [beq_eq_false_iff_ne]; intro e; exact hA (.inr (.inr e))
      have e4 : (h' == [110, 111, 116]) = false := by rw [beq_eq_false_iff_ne]; exact hB
      clear hA hB
      go_enter Try.func18, Try.ntmps18
      go_wp2_with (go_at_call 29; refine Calls.mono (hhd.out _) ?_; rintro e w1 ⟨rfl, hb1⟩)
      go_ret
      exact ⟨ret_bool hr'.out.symm, below_step (by repeat (with_reducible first | exact hbel | exact Below.refl _ _ | refine Below.drew ?_ | refine Below.drewN ?_ _ | refine Below.alloc ?_ (by first | (simp; done) | (simp; omega) | omega | (have := Below.size hbel; simp; omega) | (have := Below.size hbel; omega)) _ | refine Below.setCell ?_ (by first | (simp; done) | (simp; omega) | omega) _)) (by simp) hb1⟩

theorem formValV_1 {h : Bs} {r : K × K} (e : hd1 h = some r) (b : Bool) : formVal h [b] = (if h = inlB ∨ h = inrB then b else decide (h = notB)) := by
  unfold hd1 at e
  repeat' split at e
  all_goals first | (rename_i hh; subst hh; revert b; decide) | cases e
theorem formValV_2 {h : Bs} {r : K × K × K} (e : hd2 h = some r) (a b : Bool) : formVal h [a, b] = (decide (h = pairB) && (a && b)) := by
  unfold hd2 at e
  repeat' split at e
  all_goals first | (rename_i hh; subst hh; revert a b; decide) | cases e

theorem isvV_any : ∀ {p : P}, p.ok = true → ISVV p
  | .nm s, _ => isvV_nm s
  | .bd s b, _ => isvV_bd s b
  | .f1 h p, hok => fun w D x M0 M1 hx hD => by
    rw [P.ok, Bool.and_eq_true, decide_eq_true_iff] at hok
    have H := isvV_any hok.1
    refine Calls.mono (isvV_form (.f1 h p) h [p] ⟨rfl, rfl⟩ (fun q hq => by simp at hq; subst hq; exact H) w D x M0 M1 hx hD rfl) ?_
    rintro e w' ⟨rfl, hb⟩
    exact ⟨ret_bool (formValV_1 hok.2 _), hb⟩
  | .f2 h p q, hok => fun w D x M0 M1 hx hD => by
    rw [P.ok, Bool.and_eq_true, Bool.and_eq_true, decide_eq_true_iff] at hok
    have H := isvV_any hok.1.1
    have H' := isvV_any hok.1.2
    refine Calls.mono (isvV_form (.f2 h p q) h [p, q] ⟨rfl, rfl⟩ (fun u hu => by simp at hu; rcases hu with rfl | rfl; exact H; exact H') w D x M0 M1 hx hD rfl) ?_
    rintro e w' ⟨rfl, hb⟩
    exact ⟨ret_bool (formValV_2 hok.2 _ _), hb⟩

end Go.Proofs.Ytijplnaoecoblaa
