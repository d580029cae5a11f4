/- FormulaLetters of the model and of the program, and its law as a call. -/
import Derived.Test.YtmnppkmgohpmaaaLettersSpec
import Derived.Test.YtmnppkmgohpmaaaSizeLaw
namespace Go.Proofs.Ytmnppkmgohpmaaa
open Go.RowKit

def lettersO : Option F → List ByteArray
  | none => []
  | some f => addL [] f

/-- A call hands back a row of its own with the texts ss, and a bool. -/
def SRet (ss : List ByteArray) (b : Bool) (w : World) (e : Ending) (w' : World) : Prop :=
  ∃ A c, e = .returned (.tuple #[.slice A ss.length c, .bool b]) ∧ w'.ownsRow w.heap.size 9 1 (.slice A ss.length c) ss.length (ss.map Value.string) ∧ Below w.heap.size w w'

theorem own_empty (w : World) (base : Nat) (hb : base ≤ w.heap.size) (E : TypeId) : (w.alloc (.cells #[] E)).ownsRow base E 1 (.slice (some ⟨w.heap.size, 0, none⟩) 0 0) 0 [] :=
  World.ownsRow_made w #[] 0 hb (by unfold maxLen; omega) rfl

theorem lret_below {base : Nat} {ss : List ByteArray} {v : Value} {w0 w : World} {e : Ending} {w' : World} (hb : Below w0.heap.size w0 w) (hbase : w0.heap.size ≤ base) (own : ∀ k, v.ownBlock = some k → w0.heap.size ≤ k)
    (h : w.grownBy w' v.ownBlock) : Below w0.heap.size w0 w' := hb.grown h hb.size own

theorem implLetters_any (s : ByteArray) (w : World) : Calls Try.prog 15 #[.string s] w (SRet (lettersO (readF s.data.toList)) (readF s.data.toList).isSome w) := by
  have no : ∀ w', readF s.data.toList = none → Below w.heap.size w w' → SRet (lettersO (readF s.data.toList)) (readF s.data.toList).isSome w (.returned (.tuple #[.slice none 0 0, .bool false])) w' := fun w' h hb => by
    rw [h]; exact ⟨none, 0, rfl, World.ownsRow_nil _ _ _ _, hb⟩
  have yes : ∀ f A c w', readF s.data.toList = some f → w'.ownsRow w.heap.size 9 1 (.slice A (addL [] f).length c) (addL [] f).length ((addL [] f).map Value.string) → Below w.heap.size w w' →
      SRet (lettersO (readF s.data.toList)) (readF s.data.toList).isSome w (.returned (.tuple #[.slice A (addL [] f).length c, .bool true])) w' := fun f A c w' h own hb => by
    rw [h]; exact ⟨A, c, rfl, own, hb⟩
  have no' := Lib.hid no
  have yes' := Lib.hid yes
  clear no yes
  go_enter Try.func15, Try.ntmps15
  go_wp2_with fail
  refine (readFormula_any s _).mono ?_
  rintro e w1 ⟨hb1, rfl⟩
  have hb1' := Lib.hid hb1
  cases hrd : readF s.data.toList with
  | none =>
    have hrd' := Lib.hid hrd
    clear hb1 hrd
    go_wp2_with fail
    go_ret2
    exact no'.out w1 hrd'.out hb1'.out
  | some f =>
    have h60 := readF_size hrd
    have hrd' := Lib.hid hrd
    have hs := hb1.size
    clear hb1 hrd
    rw [show fvO (some f) = .iface (ft f) (fi f) from rfl, show (some f).isSome = true from rfl]
    have hcall := Lib.hid (add_of f w.heap.size [] none 0 w1 (World.ownsRow_nil _ _ _ _) hs (by simp; omega))
    go_wp2_with fail
    refine hcall.out.mono ?_
    rintro e w2 ⟨A, c, rfl, own, gr, mv⟩
    have hfin := yes'.out f A c w2 hrd'.out own (hb1'.out.grown gr hs (fun k hk => by simp [Value.ownBlock] at hk))
    have hfin' := Lib.hid hfin
    clear own gr mv hfin
    go_wp2_with fail
    go_ret2
    exact hfin'.out

theorem specLetters_any (s : ByteArray) (w : World) : Calls Try.prog 14 #[.string s] w (SRet (lettersO (readF s.data.toList)) (readF s.data.toList).isSome w) := by
  go_enter Try.func14, Try.ntmps14
  go_wp2_with fail
  refine (l1Formula_any s _).mono ?_
  rintro e w1 ⟨hb1, hp⟩
  have hb1' := Lib.hid hb1
  have hs := hb1.size
  rcases hp with ⟨f, a, p, l, c, hrd, rfl, htc⟩ | ⟨a, p, l, c, hrd, rfl⟩
  · have h60 := readF_size hrd
    have hrd' := Lib.hid hrd
    have htc' := Lib.hid htc
    have hcall := fun W (hW : W = (w1.alloc (.cells #[.string a, .slice p l c] 37)).alloc (.cells #[] 9)) =>
      lt_of f w.heap.size [] (some ⟨w1.heap.size + 1, 0, none⟩) 0 W (New w.heap.size w1) a p l c
        (by subst hW; exact htc.below (((Below.refl _ _).alloc (Nat.le_refl _) _).alloc (by simp) _) (fun g hg => hg.2))
        (by subst hW; exact fun g hg => ⟨by have := hg.2; simp; omega, fun e => by have := hg.2; simp [Value.ownBlock] at e; omega⟩)
        (by subst hW; have h := own_empty (w1.alloc (.cells #[.string a, .slice p l c] 37)) w.heap.size (by simp; omega) 9; simpa using h)
        (by subst hW; simp; omega) (by simp; omega)
    have hcall' := Lib.hid (hcall _ rfl)
    clear hb1 hrd htc hcall
    go_wp2_with fail
    refine hcall'.out.mono ?_
    rintro e w2 ⟨A, k, rfl, own, gr, mv⟩
    have hfin : Hid (SRet (lettersO (readF s.data.toList)) (readF s.data.toList).isSome w (.returned (.tuple #[.slice A (addL [] f).length k, .bool true])) w2) := by
      rw [hrd'.out]
      refine ⟨A, k, rfl, own, Below.grown (w := (w1.alloc (.cells #[.string a, .slice p l c] 37)).alloc (.cells #[] 9)) ?_ gr (by simp; omega) (fun j hj => by simp [Value.ownBlock] at hj; omega)⟩
      exact (hb1'.out.alloc hs _).alloc (by simp; omega) _
    clear own gr mv
    go_wp2_with fail
    go_ret2
    exact hfin.out
  · have hfin : Hid (SRet (lettersO (readF s.data.toList)) (readF s.data.toList).isSome w (.returned (.tuple #[.slice (some ⟨w1.heap.size + 1, 0, none⟩) 0 0, .bool false])) ((w1.alloc (.cells #[.string a, .slice p l c] 37)).alloc (.cells #[] 9))) := by
      rw [hrd]
      refine ⟨_, _, rfl, ?_, (hb1'.out.alloc hs _).alloc (by simp; omega) _⟩
      have h := own_empty (w1.alloc (.cells #[.string a, .slice p l c] 37)) w.heap.size (by simp; omega) 9
      rw [show (w1.alloc (.cells #[.string a, .slice p l c] 37)).heap.size = w1.heap.size + 1 from by simp] at h
      exact h
    clear hb1 hrd
    go_wp2_with fail
    go_ret2
    exact hfin.out

theorem own_grown {w w' : World} {base base2 : Nat} {E : TypeId} {size : Nat} {v v2 : Value} {n : Nat} {xs : List Value} (h : w.ownsRow base E size v n xs) (hg : w.grownBy w' v2.ownBlock) (h2 : ∀ k, v2.ownBlock = some k → base2 ≤ k) (hlt : ∀ k, v.ownBlock = some k → k < base2) : w'.ownsRow base E size v n xs :=
  own_same h (fun j hj => hg.block j (h.lt j hj).2 (fun e => by have := h2 j e.symm; have := hlt j hj; omega))

/-- What the law of a function that hands back texts does, from the contracts of the two functions. -/
theorem lawLetters (s : ByteArray) (_ : s.size ≤ maxLen) (w : World) : Calls Try.prog 4 #[.string s] w fun e w' => e = .returned (.bool true) ∧ Below w.heap.size w w' := by
  have h1 := fun W => specLetters_any s W
  have h2 := fun W => implLetters_any s W
  have hlen : (lettersO (readF s.data.toList)).length ≤ 60 := by
    cases h : readF s.data.toList with
    | none => simp [lettersO]
    | some f => have := addL_length f []; have := readF_size h; simp [lettersO] at *; omega
  generalize lettersO (readF s.data.toList) = L at h1 h2 hlen
  generalize (readF s.data.toList).isSome = b at h1 h2
  have h1' := Lib.hid h1
  have h2' := Lib.hid h2
  clear h1 h2
  by_cases hls : 1048576 < s.size
  · go_enter Try.func4, Try.ntmps4
    go_wp2_with fail
    go_ret
    exact ⟨rfl, Below.refl _ _⟩
  · go_enter Try.func4, Try.ntmps4
    go_wp2_with fail
    refine (h1'.out _).mono ?_
    rintro e w1 ⟨A1, c1, rfl, own1, hb1⟩
    have own1' := Lib.hid own1
    have hb1' := Lib.hid hb1
    clear own1 hb1
    go_wp2_with fail
    refine (h2'.out _).mono ?_
    rintro e w2 ⟨A2, c2, rfl, own2, hb2⟩
    have own1a := Lib.hid (own_below own1'.out hb2)
    have own2' := Lib.hid own2
    have hb2' := Lib.hid hb2
    clear own2 hb2
    go_wp2_with fail
    refine (eq_any A2 A1 L.length L.length c2 c1 L L _ (RowS.of_own own2'.out) (RowS.of_own own1a.out) (by omega)).mono ?_
    rw [show decide (L = L) = true from by simp]
    rintro e w3 ⟨rfl, hb3⟩
    have own1b := Lib.hid (own_below own1a.out hb3)
    have own2b := Lib.hid (own_below own2'.out hb3)
    have hb3' := Lib.hid hb3
    clear hb3
    cases b
    all_goals
      go_wp2_with fail
      refine (mark_any A2 L.length c2 w1.heap.size 1 L _ own2b.out (by omega) (by omega)).mono ?_
      rintro e w4 ⟨rfl, own2c, gr4⟩
      have own1c := Lib.hid (own_grown (base2 := w1.heap.size) own1b.out gr4 (fun k hk => (own2b.out.lt k hk).1) (fun k hk => (own1'.out.lt k hk).2))
      have own2c' := Lib.hid own2c
      have hbel4 := Lib.hid (Below.grown (a := w) (w := w3) (w' := w4) (B := w.heap.size) (below_step (below_step hb1'.out (Nat.le_refl _) hb2'.out) (Nat.le_refl _) hb3'.out) gr4 (by have := hb1'.out.size; have := hb2'.out.size; have := hb3'.out.size; omega) (fun k hk => by have := (own2b.out.lt k hk).1; have := hb1'.out.size; omega))
      clear own2c gr4
      go_wp2_with fail
      refine (held_any A2 L.length c2 1 _ (RowS.of_own own2c'.out) (by omega) (by omega)).mono ?_
      rintro e w5 ⟨rfl, hb5⟩
      have own1d := Lib.hid (own_below own1c.out hb5)
      have own2d := Lib.hid (own_below own2c'.out hb5)
      have hb5' := Lib.hid hb5
      clear hb5
      go_wp2_with fail
      refine (h2'.out _).mono ?_
      rintro e w6 ⟨A3, c3, rfl, own3, hb6⟩
      have own1e := Lib.hid (own_below own1d.out hb6)
      have own2e := Lib.hid (own_below own2d.out hb6)
      have own3' := Lib.hid own3
      have hb6' := Lib.hid hb6
      clear hb6 own3
      go_wp2_with fail
      refine (eq_any A3 A1 L.length L.length c3 c1 L L _ (RowS.of_own own3'.out) (RowS.of_own own1e.out) (by omega)).mono ?_
      rw [show decide (L = L) = true from by simp]
      rintro e w7 ⟨rfl, hb7⟩
      have own2f := Lib.hid (own_below own2e.out hb7)
      have hb7' := Lib.hid hb7
      clear hb7
      go_wp2_with fail
      refine (held_any A2 L.length c2 1 _ (RowS.of_own own2f.out) (by omega) (by omega)).mono ?_
      rintro e w8 ⟨rfl, hb8⟩
      go_wp2_with fail
      go_ret
      exact ⟨rfl, below_step (below_step (below_step (below_step hbel4.out (Nat.le_refl _) hb5'.out) (Nat.le_refl _) hb6'.out) (Nat.le_refl _) hb7'.out) (Nat.le_refl _) hb8⟩

end Go.Proofs.Ytmnppkmgohpmaaa
