/- impl.longOf; impl.lengthened. -/
import Derived.Test.YtaagbnbekfogiaaGreatDoorLgV
import Derived.Test.YtaagbnbekfogiaaGreatDoorMapF
namespace Go.Proofs.YtaagbnbekfogiaaGreatDoor
set_option linter.unusedVariables false
set_option linter.unusedSimpArgs false
open Go.RowKit Go.Maps
set_option maxRecDepth 100000

theorem longOfC_any (w : World) : Calls Tryz.prog 30 #[] w fun e w' => ∃ g, e = .returned (.agg #[.slice (some ⟨g, 0, none⟩) 1 1, .func (.func 54) #[] #[]]) ∧ g < w'.heap.size ∧ w'.cell? ⟨g, 0, none⟩ = some (.func (.func 53) #[] #[]) ∧ Below w.heap.size w w' := by
  go_enter Tryz.func30, Tryz.ntmps30
  go_wp2_with fail
  refine bodyPost_ret (by simp [results, Tryz.results30, go_sem]; exact rfl) rfl ?_
  exact ⟨w.heap.size + 1, rfl, by simp, block_cells (second_alloc w _ _) 0 _ rfl, bb_alloc (bb_alloc (Below.refl _ _) _) _⟩
theorem longOfV_any (w : World) : Calls Tryz.prog 32 #[] w fun e w' => ∃ g, e = .returned (.agg #[.slice (some ⟨g, 0, none⟩) 1 1, .func (.func 57) #[] #[]]) ∧ g < w'.heap.size ∧ w'.cell? ⟨g, 0, none⟩ = some (.func (.func 56) #[] #[]) ∧ Below w.heap.size w w' := by
  go_enter Tryz.func32, Tryz.ntmps32
  go_wp2_with fail
  refine bodyPost_ret (by simp [results, Tryz.results32, go_sem]; exact rfl) rfl ?_
  exact ⟨w.heap.size + 1, rfl, by simp, block_cells (second_alloc w _ _) 0 _ rfl, bb_alloc (bb_alloc (Below.refl _ _) _) _⟩

theorem lengthened_none (s : ByteArray) (vt vc : Value) (h : readP s.data.toList = none) (w : World) : Calls Tryz.prog 29 #[.string s, vt, vc] w fun e w' => e = .returned (.tuple #[.string ⟨#[]⟩, .bool false]) ∧ Below w.heap.size w w' := by
  have hrs := Lib.hid (fun W => readProgram_any s W)
  rw [h] at hrs
  clear h
  go_enter Tryz.func29, Tryz.ntmps29
  go_wp2_with fail
  refine Calls.mono (hrs.out _) ?_
  rintro e w1 ⟨hb1, rfl⟩
  go_wp2_with fail
  go_ret2
  exact ⟨rfl, hb1⟩

/-- The map of both functions. -/
theorem kinds_map (vt vc : Value) (w : World) : ∃ W1 W2 : World, (Instr.mapUpdate 87 (.map (some w.heap.size)) (.string ⟨#[116, 101, 114, 109]⟩) vt).run Tryz.prog (w.alloc (.map #[] 0)) = .ok () W1 ∧
    (Instr.mapUpdate 87 (.map (some w.heap.size)) (.string ⟨#[99, 111, 116, 101, 114, 109]⟩) vc).run Tryz.prog W1 = .ok () W2 ∧ Below w.heap.size w W2 ∧
    W2.heap[w.heap.size]? = some (.map #[⟨.string ⟨#[116, 101, 114, 109]⟩, vt, 0⟩, ⟨.string ⟨#[99, 111, 116, 101, 114, 109]⟩, vc, 1⟩] 2) := by
  have hb0 := heap_alloc_new w (.map #[] 0)
  have u1 := upd_new (P := Tryz.prog) (w.alloc (.map #[] 0)) 87 9 49 w.heap.size 0 #[] ⟨#[116, 101, 114, 109]⟩ vt (by kernel_rfl) (by kernel_rfl) hb0 rfl
  have hb1 := upd_block (o' := .map (#[].push { key := .string ⟨#[116, 101, 114, 109]⟩, val := vt, born := 0 }) (0 + 1)) hb0
  have hl1 := upd_below (o' := .map (#[].push { key := .string ⟨#[116, 101, 114, 109]⟩, val := vt, born := 0 }) (0 + 1)) (w := w.alloc (.map #[] 0)) (bb_alloc (Below.refl w.heap.size w) _) (Nat.le_refl _)
  have u2 := upd_new (P := Tryz.prog) _ 87 9 49 w.heap.size 1 _ ⟨#[99, 111, 116, 101, 114, 109]⟩ vc (by kernel_rfl) (by kernel_rfl) hb1 (by rfl)
  have hb2 := upd_block (o' := .map ((#[].push { key := .string ⟨#[116, 101, 114, 109]⟩, val := vt, born := 0 }).push { key := .string ⟨#[99, 111, 116, 101, 114, 109]⟩, val := vc, born := 1 }) (1 + 1)) hb1
  exact ⟨_, _, u1, u2, upd_below hl1 (Nat.le_refl _), hb2⟩

theorem look_t (vt vc : Value) (W : World) (r : Nat) (hb : W.heap[r]? = some (.map #[⟨.string ⟨#[116, 101, 114, 109]⟩, vt, 0⟩, ⟨.string ⟨#[99, 111, 116, 101, 114, 109]⟩, vc, 1⟩] 2)) : (Instr.lookup 87 (.map (some r)) (.string ⟨#[116, 101, 114, 109]⟩) false).run Tryz.prog W = .ok vt W :=
  look_at W _ 9 49 r 2 0 _ _ vt (by kernel_rfl) (by kernel_rfl) hb rfl
theorem look_c (vt vc : Value) (W : World) (r : Nat) (hb : W.heap[r]? = some (.map #[⟨.string ⟨#[116, 101, 114, 109]⟩, vt, 0⟩, ⟨.string ⟨#[99, 111, 116, 101, 114, 109]⟩, vc, 1⟩] 2)) : (Instr.lookup 87 (.map (some r)) (.string ⟨#[99, 111, 116, 101, 114, 109]⟩) false).run Tryz.prog W = .ok vc W :=
  look_at W _ 9 49 r 2 1 _ _ vc (by kernel_rfl) (by kernel_rfl) hb rfl
theorem look_s (vt vc : Value) (W : World) (r : Nat) (hb : W.heap[r]? = some (.map #[⟨.string ⟨#[116, 101, 114, 109]⟩, vt, 0⟩, ⟨.string ⟨#[99, 111, 116, 101, 114, 109]⟩, vc, 1⟩] 2)) : (Instr.lookup 87 (.map (some r)) (.string ⟨#[115, 116, 97, 116, 101, 109, 101, 110, 116]⟩) false).run Tryz.prog W = .ok .nilFunc W :=
  look_no W _ 9 49 r 2 _ _ .nilFunc (by kernel_rfl) (by kernel_rfl) hb rfl (by kernel_rfl)

theorem func_nil (F : FuncId) (r c : Array Value) (w : World) : (binOp .eql 49 (.func (.func F) r c) .nilFunc).run Tryz.prog w = .ok (.bool false) w := by kernel_rfl
theorem nil_nil (w : World) : (binOp .eql 49 .nilFunc .nilFunc).run Tryz.prog w = .ok (.bool true) w := by kernel_rfl

theorem lengthened_s (s : ByteArray) (vt vc : Value) {p : P} (h : readP s.data.toList = some p) (hk : p.kind = .s) (w : World) : Calls Tryz.prog 29 #[.string s, vt, vc] w fun e w' => e = .returned (.tuple #[.string ⟨#[]⟩, .bool false]) ∧ Below w.heap.size w w' := by
  have hrs := Lib.hid (fun W => readProgram_any s W)
  rw [h] at hrs
  have hok := (readP_ok h).1
  have hKp := Lib.hid (kind_any hok)
  have hk' := Lib.hid hk
  clear h hok hk
  have hmm := @run_makeMap Tryz.prog
  have e1 := func_nil
  have e2 := nil_nil
  go_enter Tryz.func29, Tryz.ntmps29
  go_wp2_with fail
  refine Calls.mono (hrs.out _) ?_
  rintro e w1 ⟨hb1, y, rfl, hy⟩
  have hb1' := Lib.hid hb1
  have mp := fun w => kind_m hy w
  have cp := fun x w => kind_c p x w
  have hkp := Lib.hid (fun W (hW : Below w1.heap.size w1 W) => hKp.out W _ y (hy.below hW (fun g hg => hg.2)))
  rw [hk'.out, show K.s.name = [115, 116, 97, 116, 101, 109, 101, 110, 116] from rfl] at hkp
  obtain ⟨W1, W2, u1, u2, hbW, hm2⟩ := kinds_map vt vc w1
  have hbW' := Lib.hid hbW
  have hm2' := Lib.hid hm2
  have hz2 := hbW.size
  have hlt : w1.heap.size < W2.heap.size := by
    rcases Nat.lt_or_ge w1.heap.size W2.heap.size with h1 | h1
    · exact h1
    · rw [Array.getElem?_eq_none h1] at hm2; cases hm2
  clear hb1 hy hbW hm2
  go_wp2_with fail
  refine Calls.mono (hkp.out _ hbW'.out) ?_
  rintro e w3 ⟨rfl, hb3⟩
  have hl := look_s vt vc w3 w1.heap.size ((hb3.block w1.heap.size hlt).trans hm2'.out)
  have hb3' := Lib.hid (below_step (below_step hb1'.out (Nat.le_refl _) hbW'.out) (Nat.le_refl _) hb3)
  clear hb3 u1 u2
  go_wp2_with fail
  go_ret2
  exact ⟨rfl, hb3'.out⟩

theorem lengthened_t (s : ByteArray) (Ft : FuncId) (rt : Array Value) (vc : Value) {p R : P} (h : readP s.data.toList = some p) (hk : p.kind = .t) (w : World) (hF : Own Ft)
    (hcall : ∀ W y, Below w.heap.size w W → LP W p y → Calls Tryz.prog Ft (rt ++ #[.iface (pt p) y]) W (LRt R W)) (hR : R.size ≤ 500 → R.ok = true) (hRs : R.size ≤ 90000) :
    Calls Tryz.prog 29 #[.string s, .func (.func Ft) rt #[], vc] w fun e w' => e = .returned (.tuple #[str (writeT R), .bool (writeB R)]) ∧ Below w.heap.size w w' := by
  have hrs := Lib.hid (fun W => readProgram_any s W)
  rw [h] at hrs
  have hok := (readP_ok h).1
  have hKp := Lib.hid (kind_any hok)
  have hk' := Lib.hid hk
  have hw := Lib.hid (fun W D x h1 h2 => write_any (p := R) hR (by omega) W D x h1 h2)
  have hcall' := Lib.hid hcall
  have hF1 : ∀ (x : Array Value) (w : World), (callFunc Ft x).run Tryz.prog w = .ok (.enter Ft x) w := hF
  clear h hok hk hF hcall
  have hmm := @run_makeMap Tryz.prog
  have e1 := func_nil
  have e2 := nil_nil
  go_enter Tryz.func29, Tryz.ntmps29
  go_wp2_with fail
  refine Calls.mono (hrs.out _) ?_
  rintro e w1 ⟨hb1, y, rfl, hy⟩
  have hb1' := Lib.hid hb1
  have mp := fun w => kind_m hy w
  have cp := fun x w => kind_c p x w
  have hkp := Lib.hid (fun W (hW : Below w1.heap.size w1 W) => hKp.out W _ y (hy.below hW (fun g hg => hg.2)))
  rw [hk'.out, show K.t.name = [116, 101, 114, 109] from rfl] at hkp
  have hy' : Hid (LP w1 p y) := Lib.hid (hy.to (fun g hg => hg.2))
  obtain ⟨W1, W2, u1, u2, hbW, hm2⟩ := kinds_map (.func (.func Ft) rt #[]) vc w1
  have hbW' := Lib.hid hbW
  have hm2' := Lib.hid hm2
  have hz2 := hbW.size
  have hlt : w1.heap.size < W2.heap.size := by
    rcases Nat.lt_or_ge w1.heap.size W2.heap.size with h1 | h1
    · exact h1
    · rw [Array.getElem?_eq_none h1] at hm2; cases hm2
  clear hb1 hy hbW hm2
  go_wp2_with fail
  refine Calls.mono (hkp.out _ hbW'.out) ?_
  rintro e w3 ⟨rfl, hb3⟩
  have hl := look_t (.func (.func Ft) rt #[]) vc w3 w1.heap.size ((hb3.block w1.heap.size hlt).trans hm2'.out)
  have hb13 := Lib.hid (below_step hbW'.out (Nat.le_refl _) hb3)
  have hb3' := Lib.hid (below_step hb1'.out (Nat.le_refl _) hb13.out)
  have hc3 := Lib.hid (hcall'.out w3 y hb3'.out (hy'.out.to hb13.out))
  clear hb3 u1 u2
  go_wp2_with fail
  refine Calls.mono hc3.out ?_
  rintro e w4 ⟨z, rfl, hz, hb4⟩
  have hb04 := Lib.hid (below_step hb3'.out (Nat.le_refl _) hb4)
  have hw4 := Lib.hid (hw.out w4 _ z hz (fun g hg => hg))
  clear hz hb4 hl
  go_wp2_with fail
  refine Calls.mono hw4.out ?_
  rintro e w5 ⟨rfl, hb5⟩
  have hb05 := Lib.hid (below_step hb04.out (Nat.le_refl _) hb5)
  clear hb5
  go_wp2_with fail
  go_ret2
  exact ⟨rfl, hb05.out⟩

theorem lengthened_c (s : ByteArray) (vt : Value) (Fc : FuncId) (rc : Array Value) {p R : P} (h : readP s.data.toList = some p) (hk : p.kind = .c) (w : World) (hF : Own Fc)
    (hcall : ∀ W y, Below w.heap.size w W → LP W p y → Calls Tryz.prog Fc (rc ++ #[.iface (pt p) y]) W (LRt R W)) (hR : R.size ≤ 500 → R.ok = true) (hRs : R.size ≤ 90000) :
    Calls Tryz.prog 29 #[.string s, vt, .func (.func Fc) rc #[]] w fun e w' => e = .returned (.tuple #[str (writeT R), .bool (writeB R)]) ∧ Below w.heap.size w w' := by
  have hrs := Lib.hid (fun W => readProgram_any s W)
  rw [h] at hrs
  have hok := (readP_ok h).1
  have hKp := Lib.hid (kind_any hok)
  have hk' := Lib.hid hk
  have hw := Lib.hid (fun W D x h1 h2 => write_any (p := R) hR (by omega) W D x h1 h2)
  have hcall' := Lib.hid hcall
  have hF1 : ∀ (x : Array Value) (w : World), (callFunc Fc x).run Tryz.prog w = .ok (.enter Fc x) w := hF
  clear h hok hk hF hcall
  have hmm := @run_makeMap Tryz.prog
  have e1 := func_nil
  have e2 := nil_nil
  go_enter Tryz.func29, Tryz.ntmps29
  go_wp2_with fail
  refine Calls.mono (hrs.out _) ?_
  rintro e w1 ⟨hb1, y, rfl, hy⟩
  have hb1' := Lib.hid hb1
  have mp := fun w => kind_m hy w
  have cp := fun x w => kind_c p x w
  have hkp := Lib.hid (fun W (hW : Below w1.heap.size w1 W) => hKp.out W _ y (hy.below hW (fun g hg => hg.2)))
  rw [hk'.out, show K.c.name = [99, 111, 116, 101, 114, 109] from rfl] at hkp
  have hy' : Hid (LP w1 p y) := Lib.hid (hy.to (fun g hg => hg.2))
  obtain ⟨W1, W2, u1, u2, hbW, hm2⟩ := kinds_map vt (.func (.func Fc) rc #[]) w1
  have hbW' := Lib.hid hbW
  have hm2' := Lib.hid hm2
  have hz2 := hbW.size
  have hlt : w1.heap.size < W2.heap.size := by
    rcases Nat.lt_or_ge w1.heap.size W2.heap.size with h1 | h1
    · exact h1
    · rw [Array.getElem?_eq_none h1] at hm2; cases hm2
  clear hb1 hy hbW hm2
  go_wp2_with fail
  refine Calls.mono (hkp.out _ hbW'.out) ?_
  rintro e w3 ⟨rfl, hb3⟩
  have hl := look_c vt (.func (.func Fc) rc #[]) w3 w1.heap.size ((hb3.block w1.heap.size hlt).trans hm2'.out)
  have hb13 := Lib.hid (below_step hbW'.out (Nat.le_refl _) hb3)
  have hb3' := Lib.hid (below_step hb1'.out (Nat.le_refl _) hb13.out)
  have hc3 := Lib.hid (hcall'.out w3 y hb3'.out (hy'.out.to hb13.out))
  clear hb3 u1 u2
  go_wp2_with fail
  refine Calls.mono hc3.out ?_
  rintro e w4 ⟨z, rfl, hz, hb4⟩
  have hb04 := Lib.hid (below_step hb3'.out (Nat.le_refl _) hb4)
  have hw4 := Lib.hid (hw.out w4 _ z hz (fun g hg => hg))
  clear hz hb4 hl
  go_wp2_with fail
  refine Calls.mono hw4.out ?_
  rintro e w5 ⟨rfl, hb5⟩
  have hb05 := Lib.hid (below_step hb04.out (Nat.le_refl _) hb5)
  clear hb5
  go_wp2_with fail
  go_ret2
  exact ⟨rfl, hb05.out⟩


end Go.Proofs.YtaagbnbekfogiaaGreatDoor
