/- impl.cutOf. Programs that stand somewhere in the world. -/
import Derived.Test.YtaagbnbekfogiaaGreatDoorNewO
namespace Go.Proofs.YtaagbnbekfogiaaGreatDoor
set_option linter.unusedVariables false
open Go.RowKit Go.Maps
set_option maxRecDepth 100000

/-- A program that stands somewhere in the world. -/
def LP (w : World) (p : P) (y : Value) : Prop := PI w (fun g => g < w.heap.size) p y
theorem LP.to {w w' : World} {p : P} {y : Value} (h : LP w p y) (hb : Below w.heap.size w w') : LP w' p y := (PI.below h hb (fun g hg => hg)).to (fun g hg => Nat.lt_of_lt_of_le hg hb.size)
theorem LP.of {w : World} {D : Nat → Prop} {p : P} {y : Value} (h : PI w D p y) (hD : ∀ g, D g → g < w.heap.size) : LP w p y := h.to hD
/-- What a call hands back that makes a program. -/
def LRt (q : P) (w : World) (e : Ending) (w' : World) : Prop := ∃ y, e = .returned (.iface (pt q) y) ∧ LP w' q y ∧ Below w.heap.size w w'
theorem LP.form1 {w : World} {h : Bs} {p : P} {y : Value} {g n : Nat} (hg : w.heap[g]? = some (.cells #[.iface (pt p) y] 36 (0, 0))) (hp : LP w p y) : LP w (.f1 h p) (.agg #[str h, .slice (some ⟨g, 0, none⟩) 1 n]) := by
  have hlt : g < w.heap.size := by
    rcases Nat.lt_or_ge g w.heap.size with h1 | h1
    · exact h1
    · rw [Array.getElem?_eq_none h1] at hg; cases hg
  exact ⟨g, n, y, rfl, hlt, block_cells hg 0 _ rfl, hp⟩
theorem LP.form2 {w : World} {h : Bs} {p q : P} {y z : Value} {g n : Nat} (hg : w.heap[g]? = some (.cells #[.iface (pt p) y, .iface (pt q) z] 36 (0, 0))) (hp : LP w p y) (hq : LP w q z) : LP w (.f2 h p q) (.agg #[str h, .slice (some ⟨g, 0, none⟩) 2 n]) := by
  have hlt : g < w.heap.size := by
    rcases Nat.lt_or_ge g w.heap.size with h1 | h1
    · exact h1
    · rw [Array.getElem?_eq_none h1] at hg; cases hg
  exact ⟨g, n, y, z, rfl, hlt, block_cells hg 0 _ rfl, hp, block_cells hg 1 _ rfl, hq⟩

/-- What a call hands back that makes a program of some that stood in D. -/
def LRD (D : Nat → Prop) (q : P) (w : World) (e : Ending) (w' : World) : Prop := ∃ y, e = .returned (.iface (pt q) y) ∧ PI w' (DN D w.heap.size w') q y ∧ Below w.heap.size w w'
theorem cutOf_t {p q : P} (hok : p.ok = true) (hk : p.kind = .t) (w : World) (D : Nat → Prop) (x y : Value) (hx : PI w D p x) (hy : PI w D q y) (hD : ∀ g, D g → g < w.heap.size) :
    Calls Tryz.prog 55 #[.iface (pt p) x, .iface (pt q) y] w (LRD D (.f2 cutB p q) w) := by
  have mp := fun w => kind_m hx w
  have cp := fun x w => kind_c p x w
  have hkc := Lib.hid (kind_any hok w _ x hx)
  rw [hk, show K.t.name = [116, 101, 114, 109] from rfl] at hkc
  have hx' := Lib.hid hx
  have hy' := Lib.hid hy
  have hD' := Lib.hid hD
  clear hx hy hok hk hD
  go_enter Tryz.func55, Tryz.ntmps55
  go_wp2_with fail
  refine Calls.mono hkc.out ?_
  rintro e w1 ⟨rfl, hb1⟩
  have hb1' := Lib.hid hb1
  clear hb1
  go_wp2_with fail
  refine Calls.mono (formOf_any cutB _ _ _ _) ?_
  rintro e w2 ⟨rfl, hb2⟩
  have hblk := (hb2.block w1.heap.size (by simp)).trans (heap_alloc_new w1 _)
  have hb12 : Below w1.heap.size w1 w2 := below_step (bb_alloc (Below.refl _ _) _) (Nat.le_refl _) hb2
  have hb02 := below_step hb1'.out (Nat.le_refl _) hb12
  have hs2 := hb2.size
  simp at hs2
  have hfin := Lib.hid (show LRD D (.f2 cutB p q) w (.returned (.iface 77 (.agg #[str cutB, .slice (some ⟨w1.heap.size, 0, none⟩) 2 2]))) w2 from
    ⟨_, rfl, ⟨w1.heap.size, 2, _, _, rfl, .inr ⟨hb1'.out.size, by omega⟩, block_cells hblk 0 _ rfl, (hx'.out.below hb02 hD'.out).to (fun g hg => .inl hg), block_cells hblk 1 _ rfl, (hy'.out.below hb02 hD'.out).to (fun g hg => .inl hg)⟩, hb02⟩)
  clear hb2 hblk hb12 hb02
  go_wp2_with fail
  go_ret
  exact hfin.out
theorem cutOf_c {p q : P} (hok : p.ok = true) (hk : p.kind = .c) (w : World) (D : Nat → Prop) (x y : Value) (hx : PI w D p x) (hy : PI w D q y) (hD : ∀ g, D g → g < w.heap.size) :
    Calls Tryz.prog 55 #[.iface (pt p) x, .iface (pt q) y] w (LRD D (.f2 cutB q p) w) := by
  have mp := fun w => kind_m hx w
  have cp := fun x w => kind_c p x w
  have hkc := Lib.hid (kind_any hok w _ x hx)
  rw [hk, show K.c.name = [99, 111, 116, 101, 114, 109] from rfl] at hkc
  have hx' := Lib.hid hx
  have hy' := Lib.hid hy
  have hD' := Lib.hid hD
  clear hx hy hok hk hD
  go_enter Tryz.func55, Tryz.ntmps55
  go_wp2_with fail
  refine Calls.mono hkc.out ?_
  rintro e w1 ⟨rfl, hb1⟩
  have hb1' := Lib.hid hb1
  clear hb1
  go_wp2_with fail
  refine Calls.mono (formOf_any cutB _ _ _ _) ?_
  rintro e w2 ⟨rfl, hb2⟩
  have hblk := (hb2.block w1.heap.size (by simp)).trans (heap_alloc_new w1 _)
  have hb12 : Below w1.heap.size w1 w2 := below_step (bb_alloc (Below.refl _ _) _) (Nat.le_refl _) hb2
  have hb02 := below_step hb1'.out (Nat.le_refl _) hb12
  have hs2 := hb2.size
  simp at hs2
  have hfin := Lib.hid (show LRD D (.f2 cutB q p) w (.returned (.iface 77 (.agg #[str cutB, .slice (some ⟨w1.heap.size, 0, none⟩) 2 2]))) w2 from
    ⟨_, rfl, ⟨w1.heap.size, 2, _, _, rfl, .inr ⟨hb1'.out.size, by omega⟩, block_cells hblk 0 _ rfl, (hy'.out.below hb02 hD'.out).to (fun g hg => .inl hg), block_cells hblk 1 _ rfl, (hx'.out.below hb02 hD'.out).to (fun g hg => .inl hg)⟩, hb02⟩)
  clear hb2 hblk hb12 hb02
  go_wp2_with fail
  go_ret
  exact hfin.out

end Go.Proofs.YtaagbnbekfogiaaGreatDoor
