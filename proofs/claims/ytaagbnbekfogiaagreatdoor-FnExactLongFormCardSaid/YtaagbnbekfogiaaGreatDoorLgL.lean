/- impl.LongForm. -/
import Derived.Test.YtaagbnbekfogiaaGreatDoorLgO
import Derived.Test.YtaagbnbekfogiaaGreatDoorNine5
namespace Go.Proofs.YtaagbnbekfogiaaGreatDoor
set_option linter.unusedVariables false
set_option linter.unusedSimpArgs false
open Go.RowKit Go.Maps
set_option maxRecDepth 100000

theorem newOf_one (v : Bool) (p : P) : newOf v [p] = nw v p.uses := by simp [newOf, nw]

theorem long1C (a : Bs) (hv : firstIs varB a = false) (ha : a ≠ []) (w : World) : Calls Tryz.prog 53 #[nameW a] w (PPost (.nm a) w) := by
  obtain ⟨a0, a1, rfl⟩ := List.exists_cons_of_ne_nil ha
  have hpt : pt (.nm (a0 :: a1)) = 44 := by simp [pt, hv]
  have hfin : Hid (∀ w', Below w.heap.size w w' → PPost (.nm (a0 :: a1)) w (.returned (.iface 44 (.agg #[.int .u8 a0.toNat, .string ⟨a1.toArray⟩]))) w') := fun w' h => ⟨_, by rw [hpt], ⟨a0, a1, rfl, rfl⟩, h⟩
  rw [show nameW (a0 :: a1) = .agg #[.int .u8 a0.toNat, .string ⟨a1.toArray⟩] from rfl]
  clear hpt
  go_enter Tryz.func53, Tryz.ntmps53
  go_wp2_with fail
  go_ret
  exact hfin.out _ (bb_alloc (Below.refl _ _) _)
theorem long1V (a : Bs) (hv : firstIs varB a = true) (ha : a ≠ []) (w : World) : Calls Tryz.prog 56 #[nameW a] w (PPost (.nm a) w) := by
  obtain ⟨a0, a1, rfl⟩ := List.exists_cons_of_ne_nil ha
  have hpt : pt (.nm (a0 :: a1)) = 47 := by simp [pt, hv]
  have hfin : Hid (∀ w', Below w.heap.size w w' → PPost (.nm (a0 :: a1)) w (.returned (.iface 47 (.agg #[.int .u8 a0.toNat, .string ⟨a1.toArray⟩]))) w') := fun w' h => ⟨_, by rw [hpt], ⟨a0, a1, rfl, rfl⟩, h⟩
  rw [show nameW (a0 :: a1) = .agg #[.int .u8 a0.toNat, .string ⟨a1.toArray⟩] from rfl]
  clear hpt
  go_enter Tryz.func56, Tryz.ntmps56
  go_wp2_with fail
  go_ret
  exact hfin.out _ (bb_alloc (Below.refl _ _) _)
theorem long2C (R : P) (b c : Nat) (w : World) (hk : KidP w (fun g => g < w.heap.size) b [R]) (hb : b < w.heap.size) : Calls Tryz.prog 54 #[.slice (some ⟨b, 0, none⟩) 1 c] w (LRt R w) := by
  obtain ⟨y, h0, h1⟩ := hk 0 R rfl
  have hfin : Hid (LRt R w (.returned (.iface (pt R) y)) w) := ⟨y, rfl, h1, Below.refl _ _⟩
  clear hk h1
  go_enter Tryz.func54, Tryz.ntmps54
  go_wp2_with fail
  go_ret
  exact hfin.out
theorem long2V (R : P) (b c : Nat) (w : World) (hk : KidP w (fun g => g < w.heap.size) b [R]) (hb : b < w.heap.size) : Calls Tryz.prog 57 #[.slice (some ⟨b, 0, none⟩) 1 c] w (LRt R w) := by
  obtain ⟨y, h0, h1⟩ := hk 0 R rfl
  have hfin : Hid (LRt R w (.returned (.iface (pt R) y)) w) := ⟨y, rfl, h1, Below.refl _ _⟩
  clear hk h1
  go_enter Tryz.func57, Tryz.ntmps57
  go_wp2_with fail
  go_ret
  exact hfin.out

theorem kind_cut' (x y : P) : (P.f2 cutB x y).kind = .s := by rw [P.kind]; rfl
theorem longP_good {p : P} (hok : p.ok = true) (hs : p.size ≤ 500) (hk : p.kind ≠ .s) : (longP p).nok = true ∧ (longP p).size ≤ 2000 ∧ ((longP p).canon.size ≤ 500 → (longP p).canon.ok = true) ∧ (longP p).canon.size ≤ 90000 := by
  have u := p.uses_len
  obtain ⟨-, h2, h3⟩ := longP_ok hok hs
  have hsz := (longP p).canon_size
  refine ⟨h2, by omega, fun h => (canon_ok ?_ (by omega)).1, by omega⟩
  unfold longP
  have n1 : isName (newOf false [p]) = true := by rw [newOf_one]; exact nw_name _ (by omega)
  have n2 : isName (newOf true [p]) = true := by rw [newOf_one]; exact nw_name _ (by omega)
  have f1 : firstIs varB (newOf false [p]) = false := by rw [newOf_one]; exact nw_first _ _
  have f2 : firstIs varB (newOf true [p]) = true := by rw [newOf_one]; exact nw_first _ _
  split
  · rename_i hkt
    have k1 : (P.nm (newOf false [p])).kind = .c := by rw [P.kind, f1]; rfl
    rw [P.ok, P.ok, P.ok, n1, hok, hkt, k1, kind_cut']
    rfl
  · rename_i hkt
    have hkc : p.kind = .c := by revert hkt hk; cases p.kind <;> simp
    have k1 : (P.nm (newOf true [p])).kind = .t := by rw [P.kind, f2]; rfl
    rw [P.ok, P.ok, P.ok, n2, hok, hkc, k1, kind_cut']
    rfl

theorem own_long1C : Own 53 := fun x w => by kernel_rfl
theorem own_long2C : Own 54 := fun x w => by kernel_rfl
theorem own_long1V : Own 56 := fun x w => by kernel_rfl
theorem own_long2V : Own 57 := fun x w => by kernel_rfl
theorem own_ofC : Own 31 := fun x w => by kernel_rfl
theorem own_ofV : Own 33 := fun x w => by kernel_rfl

/-- The long form of a term, as the method makes it. -/
theorem longC_of {p : P} (hok : p.ok = true) (hs : p.size ≤ 500) (hk : p.kind = .t) (g : Nat) (w : World) (y : Value) (hito : ITO 1000000 w.heap.size w) (hg : g < w.heap.size) (h0 : w.cell? ⟨g, 0, none⟩ = some (.func (.func 53) #[] #[])) (hy : LP w p y) :
    Calls Tryz.prog 31 #[.agg #[.slice (some ⟨g, 0, none⟩) 1 1, .func (.func 54) #[] #[]], .iface (pt p) y] w (LRt (longP p).canon w) := by
  have hl : longP p = .bd (nw false p.uses) (.f2 cutB p (.nm (nw false p.uses))) := by rw [longP, if_pos hk, newOf_one]
  obtain ⟨h1, h2, -, -⟩ := longP_good hok hs (by rw [hk]; decide)
  exact ofC_any (N := 1000000) (by omega) (by omega) [(53, #[], .nm (nw false p.uses))] _ #[] p (longP p) g 1 w y hito hy hok hs (fun q => .f2 cutB p q) (fun q W D x y hx hy hD => cutOf_t hok hk W D x y hx hy hD) hg (by simp) (by simp)
    (fun i t ht => by rcases i with _ | i; (simp at ht; subst ht; exact h0); simp at ht)
    (fun t ht => by simp at ht; subst ht; exact ⟨own_long1C, fun W _ => by rw [Array.append_empty]; exact long1C _ (nw_first _ _) (nw_ne _ _) W⟩)
    own_long2C (fun W b c hW hk hb => by rw [Array.append_empty, hl]; exact long2C _ b c W hk hb) h1 h2
theorem longV_of {p : P} (hok : p.ok = true) (hs : p.size ≤ 500) (hk : p.kind = .c) (g : Nat) (w : World) (y : Value) (hito : ITO 1000000 w.heap.size w) (hg : g < w.heap.size) (h0 : w.cell? ⟨g, 0, none⟩ = some (.func (.func 56) #[] #[])) (hy : LP w p y) :
    Calls Tryz.prog 33 #[.agg #[.slice (some ⟨g, 0, none⟩) 1 1, .func (.func 57) #[] #[]], .iface (pt p) y] w (LRt (longP p).canon w) := by
  have hl : longP p = .bd (nw true p.uses) (.f2 cutB (.nm (nw true p.uses)) p) := by rw [longP, if_neg (by rw [hk]; decide), newOf_one]
  obtain ⟨h1, h2, -, -⟩ := longP_good hok hs (by rw [hk]; decide)
  exact ofV_any (N := 1000000) (by omega) (by omega) [(56, #[], .nm (nw true p.uses))] _ #[] p (longP p) g 1 w y hito hy hok hs (fun q => .f2 cutB q p) (fun q W D x y hx hy hD => cutOf_c hok hk W D x y hx hy hD) hg (by simp) (by simp)
    (fun i t ht => by rcases i with _ | i; (simp at ht; subst ht; exact h0); simp at ht)
    (fun t ht => by simp at ht; subst ht; exact ⟨own_long1V, fun W _ => by rw [Array.append_empty]; exact long1V _ (nw_first _ _) (nw_ne _ _) W⟩)
    own_long2V (fun W b c hW hk hb => by rw [Array.append_empty, hl]; exact long2V _ b c W hk hb) h1 h2

set_option maxHeartbeats 1000000 in
theorem implLong (s : ByteArray) (w : World) (hito : ITO 1000000 w.heap.size w) : Calls Tryz.prog 11 #[.string s] w fun e w' => e = .returned (.tuple #[str (frT longP noS (readP s.data.toList)), .bool (frB longP noS (readP s.data.toList))]) ∧ Below w.heap.size w w' := by
  have hLe : Hid (∀ (W : World) (g1 g2 : Nat), Below w.heap.size w W → g1 < W.heap.size → g2 < W.heap.size → W.cell? ⟨g1, 0, none⟩ = some (.func (.func 53) #[] #[]) → W.cell? ⟨g2, 0, none⟩ = some (.func (.func 56) #[] #[]) →
      Calls Tryz.prog 29 #[.string s, .func (.func 31) #[.agg #[.slice (some ⟨g1, 0, none⟩) 1 1, .func (.func 54) #[] #[]]] #[], .func (.func 33) #[.agg #[.slice (some ⟨g2, 0, none⟩) 1 1, .func (.func 57) #[] #[]]] #[]] W
        fun e w' => e = .returned (.tuple #[str (frT longP noS (readP s.data.toList)), .bool (frB longP noS (readP s.data.toList))]) ∧ Below W.heap.size W w') := fun W g1 g2 hW h1 h2 c1 c2 => by
    cases hr : readP s.data.toList with
    | none => exact lengthened_none s _ _ hr W
    | some p =>
      have hok := (readP_ok hr).1
      have h5 := (readP_ok hr).2.1
      cases hk : p.kind with
      | s =>
        have h0 : noS p = false := by simp [noS, hk]
        have hh := lengthened_s s (.func (.func 31) #[.agg #[.slice (some ⟨g1, 0, none⟩) 1 1, .func (.func 54) #[] #[]]] #[]) (.func (.func 33) #[.agg #[.slice (some ⟨g2, 0, none⟩) 1 1, .func (.func 57) #[] #[]]] #[]) hr hk W
        rw [show frT longP noS (some p) = [] from by simp [frT, h0], show frB longP noS (some p) = false from by simp [frB, h0]]
        exact hh
      | t =>
        have h0 : noS p = true := by simp [noS, hk]
        obtain ⟨-, -, h3, h4⟩ := longP_good hok h5 (by rw [hk]; decide)
        rw [show frT longP noS (some p) = writeT (longP p).canon from by simp [frT, h0], show frB longP noS (some p) = writeB (longP p).canon from by simp [frB, h0]]
        exact lengthened_t s _ _ _ hr hk W own_ofC (fun W' y hW' hy => longC_of hok h5 hk g1 W' y (hito.up (below_step hW (Nat.le_refl _) hW')) (Nat.lt_of_lt_of_le h1 hW'.size) ((hW'.cell (p := ⟨g1, 0, none⟩) h1).trans c1) hy) h3 h4
      | c =>
        have h0 : noS p = true := by simp [noS, hk]
        obtain ⟨-, -, h3, h4⟩ := longP_good hok h5 (by rw [hk]; decide)
        rw [show frT longP noS (some p) = writeT (longP p).canon from by simp [frT, h0], show frB longP noS (some p) = writeB (longP p).canon from by simp [frB, h0]]
        exact lengthened_c s _ _ _ hr hk W own_ofV (fun W' y hW' hy => longV_of hok h5 hk g2 W' y (hito.up (below_step hW (Nat.le_refl _) hW')) (Nat.lt_of_lt_of_le h2 hW'.size) ((hW'.cell (p := ⟨g2, 0, none⟩) h2).trans c2) hy) h3 h4
  generalize frT longP noS (readP s.data.toList) = z1 at *
  generalize frB longP noS (readP s.data.toList) = z2 at *
  clear hito
  have hmf : ∀ (fn : Fn) (first cap : Array Value) (w : World), (Instr.makeFunc fn first cap).run Tryz.prog w = .ok (.func fn first cap) w := fun _ _ _ _ => rfl
  go_enter Tryz.func11, Tryz.ntmps11
  go_wp2_with fail
  refine Calls.mono (longOfC_any _) ?_
  rintro e w1 ⟨g1, rfl, hg1, hc1, hb1⟩
  have hc1' := Lib.hid hc1
  have hb1' := Lib.hid hb1
  clear hc1 hb1
  go_wp2_with fail
  refine Calls.mono (longOfV_any _) ?_
  rintro e w2 ⟨g2, rfl, hg2, hc2, hb2⟩
  have hb02 := Lib.hid (below_step hb1'.out (Nat.le_refl _) hb2)
  have hcall := Lib.hid (hLe.out w2 g1 g2 hb02.out (Nat.lt_of_lt_of_le hg1 hb2.size) hg2 ((hb2.cell (p := ⟨g1, 0, none⟩) hg1).trans hc1'.out) hc2)
  clear hc2 hb2
  go_wp2_with fail
  refine Calls.mono hcall.out ?_
  rintro e w3 ⟨rfl, hb3⟩
  have hb03 := Lib.hid (below_step hb02.out (Nat.le_refl _) hb3)
  clear hb3
  go_wp2_with fail
  go_ret2
  exact ⟨rfl, hb03.out⟩

theorem lawLong (s : ByteArray) (_ : s.size ≤ maxLen) (w : World) (hito : ITO 1000000 w.heap.size w) : Calls Tryz.prog 4 #[.string s] w fun e w' => e = .returned (.bool true) ∧ Below w.heap.size w w' := by
  have h1 := fun W => specLong s W
  have h2 := fun W (hW : Below w.heap.size w W) => implLong s W (hito.up hW)
  generalize frT longP noS (readP s.data.toList) = x at h1 h2
  generalize frB longP noS (readP s.data.toList) = b at h1 h2
  have h1' := Lib.hid h1
  have h2' := Lib.hid h2
  clear h1 h2 hito
  by_cases hlen : 1048576 < s.size
  · go_enter Tryz.func4, Tryz.ntmps4
    go_wp2_with fail
    go_ret
    exact ⟨rfl, (by repeat (with_reducible first | exact hbel | exact Below.refl _ _ | refine Below.drew ?_ | refine Below.drewN ?_ _ | refine Below.alloc ?_ (by first | (simp; done) | (simp; omega) | omega | (have := Below.size hbel; simp; omega) | (have := Below.size hbel; omega)) _ | refine Below.setCell ?_ (by first | (simp; done) | (simp; omega) | omega) _))⟩
  · go_enter Tryz.func4, Tryz.ntmps4
    go_wp2_with fail
    refine Calls.mono (h1'.out _) ?_
    rintro e w1 ⟨rfl, hb1⟩
    have hb1' := Lib.hid hb1
    clear hb1
    go_wp2_with fail
    refine Calls.mono (h2'.out _ hb1'.out) ?_
    rintro e w2 ⟨rfl, hb2⟩
    go_wp2_with fail
    go_ret
    exact ⟨rfl, below_step hb1'.out (Nat.le_refl _) hb2⟩

end Go.Proofs.YtaagbnbekfogiaaGreatDoor
