/- impl.canonical and impl.put. -/
import Derived.Test.YtaagbnbekfogiaaGreatDoorRen2
import Derived.Test.YtaagbnbekfogiaaGreatDoorUses
namespace Go.Proofs.YtaagbnbekfogiaaGreatDoor
set_option linter.unusedVariables false
open Go.RowKit Go.Maps

theorem ren_ahead {p : P} {x : Value} {w0 : World} {D : Nat → Prop} (h : PI w0 D p x) (w : World) : (nilAhead 297 (pt p) x "loop.example/classicalcontrol/impl.renamed").run Tryz.prog w = .ok (some false) w := by
  cases p with
  | nm s => obtain ⟨c, d, rfl, rfl⟩ := h; cases hv : firstIs varB (c :: d) <;> simp only [pt, hv, if_true, if_false, Bool.false_eq_true] <;> kernel_rfl
  | _ => kernel_rfl
theorem names_ok {p : P} (hok : p.nok = true) : NamesOk p.uses := fun s hs => ⟨nmB_ne (P.uses_nm hok s hs), by have := nmB_len (P.uses_nm hok s hs); omega⟩

/-- What a call hands back that makes a program. -/
def PPost (q : P) (w : World) (e : Ending) (w' : World) : Prop := ∃ y, e = .returned (.iface (pt q) y) ∧ PI w' (New w.heap.size w') q y ∧ Below w.heap.size w w'
theorem PPost.from {q : P} {w W : World} {e : Ending} {w' : World} (hW : Below w.heap.size w W) (h : PPost q W e w') : PPost q w e w' := by
  obtain ⟨y, he, hp, hb⟩ := h
  exact ⟨y, he, hp.to (fun g hg => ⟨Nat.le_trans hW.size hg.1, hg.2⟩), below_step hW (Nat.le_refl _) hb⟩

set_option maxRecDepth 100000 in
set_option maxHeartbeats 2000000 in
theorem canonical_any {N : Nat} (hN : N ≤ 1000000) {p : P} (hok : p.nok = true) (hs : p.size ≤ 99000) (hs2 : p.size < N) (w : World) (hito : ITO N w.heap.size w) (D : Nat → Prop) (x : Value) (hx : PI w D p x) (hD : ∀ g, D g → g < w.heap.size) :
    Calls Tryz.prog 27 #[.iface (pt p) x] w (PPost p.canon w) := by
  have mu := fun w => uses_m hx w
  have cu := fun x w => uses_c p x w
  have mr := fun w => renamed_m hx w
  have cr := fun x w => renamed_c p x w
  have hU := Lib.hid (fun W (hW : Below w.heap.size w W) => uses_nok hok hs W D x (hx.below hW hD) (fun g hg => Nat.lt_of_lt_of_le (hD g hg) hW.size))
  have hul := p.uses_len
  have hbu := p.binders_uses
  have hcb := p.canon.binders_uses
  have hcs := p.canon_size
  have hcb1 := p.canon.binders_size
  have hnames := names_ok hok
  have hah := fun w => ren_ahead hx w
  have hmf : ∀ (fn : Fn) (first cap : Array Value) (w : World), (Instr.makeFunc fn first cap).run Tryz.prog w = .ok (.func fn first cap) w := fun _ _ _ _ => rfl
  have hbin : 0 + (p.ren p.uses stay [] ⟨0, 0⟩).1.binders + p.uses.length < N := by
    have h1 : (p.ren p.uses stay [] ⟨0, 0⟩).1.binders = p.canon.binders := rfl
    have h2 : p.canon.uses.length = p.canon.uses.length := rfl
    have : p.canon.binders + p.uses.length ≤ p.size := by
      have h3 : (p.ren p.uses stay [] ⟨0, 0⟩).1.binders = p.binders := by
        have key : ∀ (q : P) (sc : List (Bs × Bs)) (st : St), (q.ren p.uses stay sc st).1.binders = q.binders := by
          intro q
          induction q with
          | nm s => intro sc st; rw [P.ren]; cases look sc s <;> rfl
          | f1 h q ih => intro sc st; rw [P.ren, P.binders, ih, P.binders]
          | f2 h q q' ih ih' => intro sc st; rw [P.ren, P.binders, ih, ih', P.binders]
          | bd s b ih => intro sc st; rw [P.ren, P.binders, ih, P.binders]
        exact key p [] _
      rw [← h1, h3]; exact hbu
    omega
  have hR : Hid (∀ (r bf bc : Nat) (W : World), Below w.heap.size w W → w.heap.size ≤ bc → RN W r bf bc p.uses ⟨0, 0⟩ → Calls Tryz.prog (renamedFn p) #[x, .pointer (some ⟨r, 0, none⟩), .pointer none] W (RenPost bc p.canon r bf p.uses (p.ren p.uses stay [] ⟨0, 0⟩).2 W)) := fun r bf bc W hW hbc hrn =>
    renp0_any N w.heap.size hN p r bf bc p.uses ⟨0, 0⟩ 0 W D x (hito.below hW (Nat.le_refl _)) hbc hW.size hrn hnames (hx.below hW hD) (fun g hg => And.intro (Nat.lt_of_lt_of_le (hD g hg) hW.size) (by have := hD g hg; omega)) (stOk_zero _) hbin
  clear hx hD hito hbin
  go_enter Tryz.func27, Tryz.ntmps27
  go_wp2_with fail
  go_region_with (first
    | (go_at_call 52; refine Calls.mono (newRenamer_any A _ c p.uses _ (RowN.of_own own) (by omega) hnames) ?_; rintro e w2 ⟨r, bf, bc, rfl, hrn, h1, h2, h3, hb2⟩)
    | (refine Calls.mono (hR.out r bf bc _ (below_step (below_step (Below.refl _ _).drew (by simp) hb1) (Nat.le_refl _) hb2) (Nat.le_trans (below_step (Below.refl _ _).drew (by simp) hb1 : Below w.heap.size w _).size h3) hrn) ?_; rintro e w3 ⟨z, rfl, hz, hrn3, hgr3⟩)
    | (refine Calls.mono (hU.out _ (Below.refl _ _).drew) ?_; rintro e w1 ⟨A, c, rfl, own, hb1⟩))
  all_goals
    have hb02 := below_step (below_step (Below.refl _ _).drew (by simp) hb1 : Below w.heap.size w w1) (Nat.le_refl _) hb2
    have h3' : w.heap.size ≤ bc := Nat.le_trans (below_step (Below.refl _ _).drew (by simp) hb1 : Below w.heap.size w w1).size h3
    have hfin : Hid (PI w3 (New w.heap.size w3) p.canon z ∧ Below w.heap.size w w3) := Lib.hid ⟨hz.to (fun g hg => ⟨Nat.le_trans hb02.size hg.1, hg.2⟩), hb02.grown hgr3 hb02.size (fun k hk => by injection hk with hk; omega)⟩
    clear hz hgr3 hrn3 hrn own hb1 hb2
    go_wp2_with fail
    go_ret
    exact ⟨z, rfl, hfin.out.1, hfin.out.2⟩

end Go.Proofs.YtaagbnbekfogiaaGreatDoor
