/- impl.NotForm. -/
import Derived.Test.YtaagbnbekfogiaaGreatDoorLgL
namespace Go.Proofs.YtaagbnbekfogiaaGreatDoor
set_option linter.unusedVariables false
set_option linter.unusedSimpArgs false
open Go.RowKit Go.Maps
set_option maxRecDepth 100000

theorem lengthened_cn (s : ByteArray) (vt : Value) {p : P} (h : readP s.data.toList = some p) (hk : p.kind = .c) (w : World) : Calls Tryz.prog 29 #[.string s, vt, .nilFunc] w fun e w' => e = .returned (.tuple #[.string ⟨#[]⟩, .bool false]) ∧ Below w.heap.size w w' := by
  have hrs := Lib.hid (fun W => readProgram_any s W)
  rw [h] at hrs
  have hok := (readP_ok h).1
  have hKp := Lib.hid (kind_any hok)
  have hk' := Lib.hid hk
  clear h hok hk
  have hmm := @run_makeMap Tryz.prog
  have e1 := func_nil
  have e2 := nil_nil
  go_enter Tryz.func29, Tryz.ntmps29
  go_wp2_with fail
  refine Calls.mono (hrs.out _) ?_
  rintro e w1 ⟨hb1, y, rfl, hy⟩
  have hb1' := Lib.hid hb1
  have mp := fun w => kind_m hy w
  have cp := fun x w => kind_c p x w
  have hkp := Lib.hid (fun W (hW : Below w1.heap.size w1 W) => hKp.out W _ y (hy.below hW (fun g hg => hg.2)))
  rw [hk'.out, show K.c.name = [99, 111, 116, 101, 114, 109] from rfl] at hkp
  obtain ⟨W1, W2, u1, u2, hbW, hm2⟩ := kinds_map vt .nilFunc w1
  have hbW' := Lib.hid hbW
  have hm2' := Lib.hid hm2
  have hz2 := hbW.size
  have hlt : w1.heap.size < W2.heap.size := by
    rcases Nat.lt_or_ge w1.heap.size W2.heap.size with h1 | h1
    · exact h1
    · rw [Array.getElem?_eq_none h1] at hm2; cases hm2
  clear hb1 hy hbW hm2
  go_wp2_with fail
  refine Calls.mono (hkp.out _ hbW'.out) ?_
  rintro e w3 ⟨rfl, hb3⟩
  have hl := look_c vt .nilFunc w3 w1.heap.size ((hb3.block w1.heap.size hlt).trans hm2'.out)
  have hb3' := Lib.hid (below_step (below_step hb1'.out (Nat.le_refl _) hbW'.out) (Nat.le_refl _) hb3)
  clear hb3 u1 u2
  go_wp2_with fail
  go_ret2
  exact ⟨rfl, hb3'.out⟩


theorem testByV_any (h : Bs) (w : World) : Calls Tryz.prog 63 #[str h] w fun e w' => ∃ b, e = .returned (.func (.func 85) #[] #[.pointer (some ⟨b, 0, none⟩)]) ∧ b < w'.heap.size ∧ w'.cell? ⟨b, 0, none⟩ = some (str h) ∧ Below w.heap.size w w' := by
  have hmf : ∀ (fn : Fn) (first cap : Array Value) (w : World), (Instr.makeFunc fn first cap).run Tryz.prog w = .ok (.func fn first cap) w := fun _ _ _ _ => rfl
  go_enter Tryz.func63, Tryz.ntmps63
  go_wp2_with fail
  go_ret
  exact ⟨w.heap.size, rfl, by simp, block_cells (heap_alloc_new w _) 0 _ rfl, bb_alloc (Below.refl _ _) _⟩
theorem joinBy_any (h : Bs) (w : World) : Calls Tryz.prog 61 #[str h] w fun e w' => ∃ b, e = .returned (.func (.func 84) #[] #[.pointer (some ⟨b, 0, none⟩)]) ∧ b < w'.heap.size ∧ w'.cell? ⟨b, 0, none⟩ = some (str h) ∧ Below w.heap.size w w' := by
  have hmf : ∀ (fn : Fn) (first cap : Array Value) (w : World), (Instr.makeFunc fn first cap).run Tryz.prog w = .ok (.func fn first cap) w := fun _ _ _ _ => rfl
  go_enter Tryz.func61, Tryz.ntmps61
  go_wp2_with fail
  go_ret
  exact ⟨w.heap.size, rfl, by simp, block_cells (heap_alloc_new w _) 0 _ rfl, bb_alloc (Below.refl _ _) _⟩
theorem testV1 (h a : Bs) (hv : firstIs varB a = true) (ha : a ≠ []) (b : Nat) (w : World) (hb : b < w.heap.size) (h0 : w.cell? ⟨b, 0, none⟩ = some (str h)) : Calls Tryz.prog 85 #[nameW a, .pointer (some ⟨b, 0, none⟩)] w (PPost (.f1 h (.nm a)) w) := by
  obtain ⟨a0, a1, rfl⟩ := List.exists_cons_of_ne_nil ha
  have hpt : Hid (pt (.nm (a0 :: a1)) = 47) := by simp [Hid, pt, hv]
  rw [show nameW (a0 :: a1) = .agg #[.int .u8 a0.toNat, .string ⟨a1.toArray⟩] from rfl]
  go_enter Tryz.func85, Tryz.ntmps85
  go_wp2_with fail
  refine Calls.mono (formOf_any h _ _ _ _) ?_
  rintro e w2 ⟨rfl, hb2⟩
  have hblk := block_cells ((hb2.block (w.heap.size + 1) (by simp)).trans (second_alloc w _ _))
  have hs2 := hb2.size
  simp at hs2
  have hB : Below w.heap.size w w2 := below_step (bb_alloc (bb_alloc (Below.refl _ _) _) _) (Nat.le_refl _) hb2
  have hfin : Hid (PPost (.f1 h (.nm (a0 :: a1))) w (.returned (.iface 77 (.agg #[str h, .slice (some ⟨w.heap.size + 1, 0, none⟩) 1 1]))) w2) :=
    ⟨_, rfl, ⟨w.heap.size + 1, 1, _, rfl, ⟨by omega, by omega⟩, by rw [hpt.out]; exact hblk 0 _ rfl, ⟨a0, a1, rfl, rfl⟩⟩, hB⟩
  clear hb2 hblk hB
  go_wp2_with fail
  go_ret
  exact hfin.out
theorem join1 (h : Bs) (R : P) (g c b : Nat) (w : World) (hk : KidP w (fun g => g < w.heap.size) g [R]) (hg : g < w.heap.size) (hb : b < w.heap.size) (h0 : w.cell? ⟨b, 0, none⟩ = some (str h)) : Calls Tryz.prog 84 #[.slice (some ⟨g, 0, none⟩) 1 c, .pointer (some ⟨b, 0, none⟩)] w (LRt (.f1 h R) w) := by
  obtain ⟨y, h1, h2⟩ := hk 0 R rfl
  have h1' := Lib.hid h1
  have h2' : Hid (LP w R y) := h2
  clear hk h1 h2
  go_enter Tryz.func84, Tryz.ntmps84
  go_wp2_with fail
  refine Calls.mono (formOf_any h _ _ _ _) ?_
  rintro e w2 ⟨rfl, hb2⟩
  have hfin : Hid (LRt (.f1 h R) w (.returned (.iface 77 (.agg #[str h, .slice (some ⟨g, 0, none⟩) 1 c]))) w2) := ⟨_, rfl, ⟨g, c, y, rfl, Nat.lt_of_lt_of_le hg hb2.size, (hb2.cell (p := ⟨g, 0, none⟩) hg).trans h1'.out, h2'.out.to hb2⟩, hb2⟩
  clear hb2
  go_wp2_with fail
  go_ret
  exact hfin.out

theorem notOf_any (w : World) : Calls Tryz.prog 36 #[] w fun e w' => ∃ g b1 b2, e = .returned (.agg #[.slice (some ⟨g, 0, none⟩) 1 1, .func (.func 84) #[] #[.pointer (some ⟨b2, 0, none⟩)]]) ∧ g < w'.heap.size ∧ b1 < w'.heap.size ∧ b2 < w'.heap.size ∧ w'.cell? ⟨g, 0, none⟩ = some (.func (.func 85) #[] #[.pointer (some ⟨b1, 0, none⟩)]) ∧
    w'.cell? ⟨b1, 0, none⟩ = some (str negB) ∧ w'.cell? ⟨b2, 0, none⟩ = some (str notB) ∧ Below w.heap.size w w' := by
  go_enter Tryz.func36, Tryz.ntmps36
  go_wp2_with fail
  refine Calls.mono (testByV_any negB _) ?_
  rintro e w1 ⟨b1, rfl, hb1, hc1, hB1⟩
  have hc1' := Lib.hid hc1
  have hB1' := Lib.hid hB1
  have hs1 := hB1.size
  simp at hs1
  have hr1 := Lib.hid ((hB1.block w.heap.size (by simp)).trans (heap_alloc_new w _))
  clear hc1 hB1
  go_wp2_with fail
  refine Calls.mono (joinBy_any notB _) ?_
  rintro e w2 ⟨b2, rfl, hb2, hc2, hB2⟩
  have hs2 := hB2.size
  simp at hs2
  obtain ⟨zr, r0, r1, fr0, fr1⟩ := two_cells ((hB2.block w.heap.size (by simp; omega)).trans ((Below.heap_alloc w1 _ w.heap.size (by omega)).trans hr1.out))
  have hg := Lib.hid ((hB2.block w1.heap.size (by simp)).trans (heap_alloc_new w1 _))
  have h12 := Lib.hid (below_step (bb_alloc (Below.refl _ _) _ : Below w1.heap.size w1 _) (Nat.le_refl _) hB2)
  have hb02 := Lib.hid (below_step (below_step (bb_alloc (Below.refl _ _) _) (Nat.le_refl _) hB1'.out : Below w.heap.size w w1) (Nat.le_refl _) h12.out)
  have hb1lo : Hid (b1 ≠ w.heap.size) := fun e => by
    have h := hc1'.out
    rw [e, block_cells hr1.out 0 _ rfl] at h
    cases h
  have hb2lo : Hid (b2 ≠ w.heap.size) := fun e => by
    have h := hc2
    rw [e, r0] at h
    cases h
  have hc2' := Lib.hid hc2
  clear hB2 hc2
  go_wp2_with fail
  refine bodyPost_ret (v := .agg #[.slice (some ⟨w1.heap.size, 0, none⟩) 1 1, .func (.func 84) #[] #[.pointer (some ⟨b2, 0, none⟩)]]) (by simp [results, Tryz.results36, go_sem, r0, r1]) rfl ?_
  refine ⟨w1.heap.size, b1, b2, rfl, by simp; omega, by simp; omega, by simp; omega, ?_, ?_, ?_, (hb02.out.setCell (by simp) _).setCell (by simp) _⟩
  · exact (World.cell?_of_block (a := ⟨w1.heap.size, 0, none⟩) (same_set w2 w.heap.size _ _ w1.heap.size (by omega))).trans (block_cells hg.out 0 _ rfl)
  · exact (World.cell?_of_block (a := ⟨b1, 0, none⟩) (same_set _ _ _ _ _ hb1lo.out)).trans ((h12.out.cell (p := ⟨b1, 0, none⟩) hb1).trans hc1'.out)
  · exact (World.cell?_of_block (a := ⟨b2, 0, none⟩) (same_set _ _ _ _ _ hb2lo.out)).trans hc2'.out

theorem own_testV1 : Own 85 := fun x w => by kernel_rfl
theorem own_join1 : Own 84 := fun x w => by kernel_rfl
theorem notP_good {p : P} (hok : p.ok = true) (hs : p.size ≤ 500) (hk : p.kind = .t) : (notP p).nok = true ∧ (notP p).size ≤ 2000 ∧ ((notP p).canon.size ≤ 500 → (notP p).canon.ok = true) ∧ (notP p).canon.size ≤ 90000 := by
  have u := p.uses_len
  obtain ⟨-, h2, h3⟩ := notP_ok hok hs
  have hsz := (notP p).canon_size
  refine ⟨h2, by omega, fun h => (canon_ok ?_ (by omega)).1, by omega⟩
  unfold notP
  have n2 : isName (newOf true [p]) = true := by rw [newOf_one]; exact nw_name _ (by omega)
  have f2 : firstIs varB (newOf true [p]) = true := by rw [newOf_one]; exact nw_first _ _
  have k1 : (P.nm (newOf true [p])).kind = .t := by rw [P.kind, f2]; rfl
  have k2 : (P.f1 negB (.nm (newOf true [p]))).kind = .c := by rw [P.kind]; rfl
  have k3 : (P.bd (newOf true [p]) (.f2 cutB p (.f1 negB (.nm (newOf true [p]))))).kind = .c := by rw [P.kind, f2]; rfl
  have k4 : (P.f1 notB (.bd (newOf true [p]) (.f2 cutB p (.f1 negB (.nm (newOf true [p])))))).kind = .t := by rw [P.kind]; rfl
  simp only [P.ok, n2, hok, hk, k1, k2, k3, k4, kind_cut', Bool.and_true, Bool.true_and]
  decide

theorem notV_of {p : P} (hok : p.ok = true) (hs : p.size ≤ 500) (hk : p.kind = .t) (g b1 b2 : Nat) (w : World) (y : Value) (hito : ITO 1000000 w.heap.size w) (hg : g < w.heap.size) (hb1 : b1 < w.heap.size) (hb2 : b2 < w.heap.size) (h0 : w.cell? ⟨g, 0, none⟩ = some (.func (.func 85) #[] #[.pointer (some ⟨b1, 0, none⟩)])) (h1 : w.cell? ⟨b1, 0, none⟩ = some (str negB)) (h2 : w.cell? ⟨b2, 0, none⟩ = some (str notB)) (hy : LP w p y) :
    Calls Tryz.prog 33 #[.agg #[.slice (some ⟨g, 0, none⟩) 1 1, .func (.func 84) #[] #[.pointer (some ⟨b2, 0, none⟩)]], .iface (pt p) y] w (LRt (notP p).canon w) := by
  have hl : notP p = .f1 notB (.bd (nw true p.uses) (.f2 cutB p (.f1 negB (.nm (nw true p.uses))))) := by rw [notP, newOf_one]
  obtain ⟨g1, g2, -, -⟩ := notP_good hok hs hk
  exact ofV_any (N := 1000000) (by omega) (by omega) [(85, #[.pointer (some ⟨b1, 0, none⟩)], .f1 negB (.nm (nw true p.uses)))] _ #[.pointer (some ⟨b2, 0, none⟩)] p (notP p) g 1 w y hito hy hok hs (fun q => .f2 cutB p q) (fun q W D x y hx hy hD => cutOf_t hok hk W D x y hx hy hD) hg (by simp) (by simp)
    (fun i t ht => by rcases i with _ | i; (simp at ht; subst ht; exact h0); simp at ht)
    (fun t ht => by simp at ht; subst ht; exact ⟨own_testV1, fun W hW => testV1 negB _ (nw_first _ _) (nw_ne _ _) b1 W (Nat.lt_of_lt_of_le hb1 hW.size) ((hW.cell (p := ⟨b1, 0, none⟩) hb1).trans h1)⟩)
    own_join1 (fun W b c hW hk' hb => by rw [hl]; exact join1 notB _ b c b2 W hk' hb (Nat.lt_of_lt_of_le hb2 hW.size) ((hW.cell (p := ⟨b2, 0, none⟩) hb2).trans h2)) g1 g2

set_option maxHeartbeats 1000000 in
theorem implNot (s : ByteArray) (w : World) (hito : ITO 1000000 w.heap.size w) : Calls Tryz.prog 15 #[.string s] w fun e w' => e = .returned (.tuple #[str (frT notP isTm (readP s.data.toList)), .bool (frB notP isTm (readP s.data.toList))]) ∧ Below w.heap.size w w' := by
  have hLe : Hid (∀ (W : World) (g b1 b2 : Nat), Below w.heap.size w W → g < W.heap.size → b1 < W.heap.size → b2 < W.heap.size → W.cell? ⟨g, 0, none⟩ = some (.func (.func 85) #[] #[.pointer (some ⟨b1, 0, none⟩)]) → W.cell? ⟨b1, 0, none⟩ = some (str negB) → W.cell? ⟨b2, 0, none⟩ = some (str notB) →
      Calls Tryz.prog 29 #[.string s, .func (.func 33) #[.agg #[.slice (some ⟨g, 0, none⟩) 1 1, .func (.func 84) #[] #[.pointer (some ⟨b2, 0, none⟩)]]] #[], .nilFunc] W
        fun e w' => e = .returned (.tuple #[str (frT notP isTm (readP s.data.toList)), .bool (frB notP isTm (readP s.data.toList))]) ∧ Below W.heap.size W w') := fun W g b1 b2 hW h1 h2 h3 c1 c2 c3 => by
    cases hr : readP s.data.toList with
    | none => exact lengthened_none s _ _ hr W
    | some p =>
      have hok := (readP_ok hr).1
      have h5 := (readP_ok hr).2.1
      cases hk : p.kind with
      | s =>
        have h0 : isTm p = false := by simp [isTm, hk]
        have hh := lengthened_s s (.func (.func 33) #[.agg #[.slice (some ⟨g, 0, none⟩) 1 1, .func (.func 84) #[] #[.pointer (some ⟨b2, 0, none⟩)]]] #[]) .nilFunc hr hk W
        rw [show frT notP isTm (some p) = [] from by simp [frT, h0], show frB notP isTm (some p) = false from by simp [frB, h0]]
        exact hh
      | c =>
        have h0 : isTm p = false := by simp [isTm, hk]
        have hh := lengthened_cn s (.func (.func 33) #[.agg #[.slice (some ⟨g, 0, none⟩) 1 1, .func (.func 84) #[] #[.pointer (some ⟨b2, 0, none⟩)]]] #[]) hr hk W
        rw [show frT notP isTm (some p) = [] from by simp [frT, h0], show frB notP isTm (some p) = false from by simp [frB, h0]]
        exact hh
      | t =>
        have h0 : isTm p = true := by simp [isTm, hk]
        obtain ⟨-, -, g3, g4⟩ := notP_good hok h5 hk
        rw [show frT notP isTm (some p) = writeT (notP p).canon from by simp [frT, h0], show frB notP isTm (some p) = writeB (notP p).canon from by simp [frB, h0]]
        exact lengthened_t s _ _ _ hr hk W own_ofV (fun W' y hW' hy => notV_of hok h5 hk g b1 b2 W' y (hito.up (below_step hW (Nat.le_refl _) hW')) (Nat.lt_of_lt_of_le h1 hW'.size) (Nat.lt_of_lt_of_le h2 hW'.size) (Nat.lt_of_lt_of_le h3 hW'.size) ((hW'.cell (p := ⟨g, 0, none⟩) h1).trans c1) ((hW'.cell (p := ⟨b1, 0, none⟩) h2).trans c2) ((hW'.cell (p := ⟨b2, 0, none⟩) h3).trans c3) hy) g3 g4
  generalize frT notP isTm (readP s.data.toList) = z1 at *
  generalize frB notP isTm (readP s.data.toList) = z2 at *
  clear hito
  have hmf : ∀ (fn : Fn) (first cap : Array Value) (w : World), (Instr.makeFunc fn first cap).run Tryz.prog w = .ok (.func fn first cap) w := fun _ _ _ _ => rfl
  go_enter Tryz.func15, Tryz.ntmps15
  go_wp2_with fail
  refine Calls.mono (notOf_any _) ?_
  rintro e w1 ⟨g, b1, b2, rfl, hg, hb1, hb2, c1, c2, c3, hB1⟩
  have hB1' := Lib.hid hB1
  have hcall := Lib.hid (hLe.out w1 g b1 b2 hB1 hg hb1 hb2 c1 c2 c3)
  clear c1 c2 c3 hB1
  go_wp2_with fail
  refine Calls.mono hcall.out ?_
  rintro e w3 ⟨rfl, hb3⟩
  have hb03 := Lib.hid (below_step hB1'.out (Nat.le_refl _) hb3)
  clear hb3
  go_wp2_with fail
  go_ret2
  exact ⟨rfl, hb03.out⟩

theorem lawNot (s : ByteArray) (_ : s.size ≤ maxLen) (w : World) (hito : ITO 1000000 w.heap.size w) : Calls Tryz.prog 6 #[.string s] w fun e w' => e = .returned (.bool true) ∧ Below w.heap.size w w' := by
  have h1 := fun W => specNot s W
  have h2 := fun W (hW : Below w.heap.size w W) => implNot s W (hito.up hW)
  generalize frT notP isTm (readP s.data.toList) = x at h1 h2
  generalize frB notP isTm (readP s.data.toList) = b at h1 h2
  have h1' := Lib.hid h1
  have h2' := Lib.hid h2
  clear h1 h2 hito
  by_cases hlen : 1048576 < s.size
  · go_enter Tryz.func6, Tryz.ntmps6
    go_wp2_with fail
    go_ret
    exact ⟨rfl, (by repeat (with_reducible first | exact hbel | exact Below.refl _ _ | refine Below.drew ?_ | refine Below.drewN ?_ _ | refine Below.alloc ?_ (by first | (simp; done) | (simp; omega) | omega | (have := Below.size hbel; simp; omega) | (have := Below.size hbel; omega)) _ | refine Below.setCell ?_ (by first | (simp; done) | (simp; omega) | omega) _))⟩
  · go_enter Tryz.func6, Tryz.ntmps6
    go_wp2_with fail
    refine Calls.mono (h1'.out _) ?_
    rintro e w1 ⟨rfl, hb1⟩
    have hb1' := Lib.hid hb1
    clear hb1
    go_wp2_with fail
    refine Calls.mono (h2'.out _ hb1'.out) ?_
    rintro e w2 ⟨rfl, hb2⟩
    go_wp2_with fail
    go_ret
    exact ⟨rfl, below_step hb1'.out (Nat.le_refl _) hb2⟩

end Go.Proofs.YtaagbnbekfogiaaGreatDoor
