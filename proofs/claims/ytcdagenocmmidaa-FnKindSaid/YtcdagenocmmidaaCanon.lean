/- impl.canonical and impl.ProgramCanon, of programs of fewer than a hundred names. -/
import Derived.Test.YtcdagenocmmidaaRenC
import Derived.Test.YtcdagenocmmidaaWriteP
namespace Go.Proofs.Ytcdagenocmmidaa
set_option linter.unusedVariables false
open Go.RowKit Go.Maps

theorem ren_ahead {p : P} {x : Value} {w0 : World} {D : Nat → Prop} (h : PI w0 D p x) (w : World) : (nilAhead 267 (pt p) x "loop.example/classicalcontrol/impl.renamed").run Try.prog w = .ok (some false) w := by
  cases p with
  | nm s => obtain ⟨c, d, rfl, rfl⟩ := h; cases hv : firstIs varB (c :: d) <;> simp only [pt, hv, if_true, if_false, Bool.false_eq_true] <;> kernel_rfl
  | _ => kernel_rfl

set_option maxRecDepth 100000 in
set_option maxHeartbeats 2000000 in
theorem canonical_any {p : P} (hok : p.ok = true) (hs : p.size ≤ 98) (w : World) (D : Nat → Prop) (x : Value) (hx : PI w D p x) (hD : ∀ g, D g → g < w.heap.size) :
    Calls Try.prog 39 #[.iface (pt p) x] w fun e w' => ∃ y, e = .returned (.iface (pt p.canon) y) ∧ PI w' (New w.heap.size w') p.canon y ∧ Below w.heap.size w w' := by
  have mu := fun w => uses_m hx w
  have cu := fun x w => uses_c p x w
  have mr := fun w => renamed_m hx w
  have cr := fun x w => renamed_c p x w
  have hU := Lib.hid (fun W (hW : Below w.heap.size w W) => uses_any hok (by omega) W D x (hx.below hW hD) (fun g hg => Nat.lt_of_lt_of_le (hD g hg) hW.size))
  have hul := p.uses_len
  have hbu := p.binders_uses
  have hnames : NamesOk p.uses := fun s hs => ⟨P.uses_ne hok s hs, by have := (isName_in (P.uses_name hok s hs)).1; omega⟩
  have hx' := Lib.hid hx
  have hD' := Lib.hid hD
  have hcan := Lib.hid (show p.canon = (p.ren p.uses [] ⟨0, 0⟩).1 from rfl)
  have hah := fun w => ren_ahead hx w
  have hmf : ∀ (fn : Fn) (first cap : Array Value) (w : World), (Instr.makeFunc fn first cap).run Try.prog w = .ok (.func fn first cap) w := fun _ _ _ _ => rfl
  have hR : Hid (∀ (r bf bc : Nat) (W : World), Below w.heap.size w W → w.heap.size ≤ bc → RN W r bf bc p.uses ⟨0, 0⟩ → Calls Try.prog (renamedFn p) #[x, .pointer (some ⟨r, 0, none⟩), .pointer none] W (RenPost bc p.canon r bf p.uses (p.ren p.uses [] ⟨0, 0⟩).2 W)) := fun r bf bc W hW hbc hrn =>
    renp_any hok r bf bc p.uses ⟨0, 0⟩ 0 [] (.pointer none) W D (fun _ => False) x hrn hnames (hx.below hW hD) (fun g hg => And.intro (Nat.lt_of_lt_of_le (hD g hg) hW.size) (by have := hD g hg; omega)) rfl (fun g hg => False.elim hg) (fun o n hm => by cases hm) (stOk_zero _) (by omega)
  clear hx hD
  go_enter Try.func39, Try.ntmps39
  go_wp2_with fail
  go_region_with (first
    | (go_at_call 66; refine Calls.mono (newRenamer_any A _ c p.uses _ (RowN.of_own own) (by omega) hnames) ?_; rintro e w2 ⟨r, bf, bc, rfl, hrn, h1, h2, h3, hb2⟩)
    | (refine Calls.mono (hR.out r bf bc _ (below_step (below_step (Below.refl _ _).drew (by simp) hb1) (Nat.le_refl _) hb2) (Nat.le_trans (below_step (Below.refl _ _).drew (by simp) hb1 : Below w.heap.size w _).size h3) hrn) ?_; rintro e w3 ⟨z, rfl, hz, hrn3, hgr3⟩)
    | (refine Calls.mono (hU.out _ (Below.refl _ _).drew) ?_; rintro e w1 ⟨A, c, rfl, own, hb1⟩))
  all_goals
    have hb02 := below_step (below_step (Below.refl _ _).drew (by simp) hb1 : Below w.heap.size w w1) (Nat.le_refl _) hb2
    have h3' : w.heap.size ≤ bc := Nat.le_trans (below_step (Below.refl _ _).drew (by simp) hb1 : Below w.heap.size w w1).size h3
    have hfin : Hid (PI w3 (New w.heap.size w3) p.canon z ∧ Below w.heap.size w w3) := Lib.hid ⟨hz.to (fun g hg => ⟨Nat.le_trans hb02.size hg.1, hg.2⟩), hb02.grown hgr3 hb02.size (fun k hk => by injection hk with hk; omega)⟩
    clear hz hgr3 hrn3 hrn own hb1 hb2
    go_wp2_with fail
    go_ret
    exact ⟨z, rfl, hfin.out.1, hfin.out.2⟩

/-- What ProgramCanon answers. -/
def canonT : Option P → Bs
  | none => []
  | some p => writeT p.canon
def canonB : Option P → Bool
  | none => false
  | some p => writeB p.canon

theorem canon_facts {p : P} (hok : p.ok = true) (hs : p.size ≤ 98) : p.canon.ok = true ∧ p.canon.kind = p.kind ∧ p.canon.size = p.size ∧ p.canon.nest = p.nest := by
  have := p.binders_uses
  exact ren_ok p.uses p [] ⟨0, 0⟩ 0 hok (fun o n hm => by cases hm) (stOk_zero _) (by omega)

set_option maxRecDepth 100000 in
theorem implCanon_any (s : ByteArray) (hs : s.size ≤ 192) (w : World) : Calls Try.prog 16 #[.string s] w fun e w' => e = .returned (.tuple #[str (canonT (readP s.data.toList)), .bool (canonB (readP s.data.toList))]) ∧ Below w.heap.size w w' := by
  generalize hz : readP s.data.toList = o
  have hz' := Lib.hid hz
  clear hz
  go_enter Try.func16, Try.ntmps16
  go_wp2_with fail
  refine Calls.mono (readProgram_any s _) ?_
  intro e w1 hm
  rw [hz'.out] at hm
  cases o with
  | none =>
    obtain ⟨hb1, rfl⟩ := hm
    go_wp2_with fail
    go_ret2
    exact ⟨rfl, hb1⟩
  | some p =>
    obtain ⟨hst, -, hok, h5⟩ := readP_back hz'.out
    have hsz : p.size ≤ 98 := by
      have h1 := P.size_text hok
      rw [← hst, ← ba_size] at h1
      omega
    obtain ⟨hb1, y, rfl, hy⟩ := hm
    obtain ⟨c1, c2, c3, c4⟩ := canon_facts hok hsz
    have hcC := Lib.hid (canonical_any hok hsz w1 _ y hy (fun g hg => hg.2))
    have hcW := Lib.hid (fun W D z h1 h2 => write_any c1 (by omega) W D z h1 h2)
    have hb1' := Lib.hid hb1
    clear hy hb1 hst
    go_wp2_with fail
    refine Calls.mono hcC.out ?_
    rintro e w2 ⟨z, rfl, hz2, hb2⟩
    have hcW2 := Lib.hid (hcW.out w2 _ z hz2 (fun g hg => hg.2))
    have hb2' := Lib.hid hb2
    clear hz2 hb2
    go_wp2_with fail
    refine Calls.mono hcW2.out ?_
    rintro e w3 ⟨rfl, hb3⟩
    have hb3' := Lib.hid (below_step (below_step hb1'.out (Nat.le_refl _) hb2'.out) (Nat.le_refl _) hb3)
    clear hb3
    go_wp2_with fail
    go_ret2
    exact ⟨rfl, hb3'.out⟩

end Go.Proofs.Ytcdagenocmmidaa
