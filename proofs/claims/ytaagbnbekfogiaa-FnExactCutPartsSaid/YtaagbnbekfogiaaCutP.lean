/- CutParts of the model and of the program. -/
import Derived.Test.YtaagbnbekfogiaaRdS
import Derived.Test.YtaagbnbekfogiaaTextT
import Derived.Test.YtaagbnbekfogiaaSpecL
import Derived.Test.YtaagbnbekfogiaaAssert
namespace Go.Proofs.Ytaagbnbekfogiaa
set_option linter.unusedVariables false
open Go.RowKit
set_option maxRecDepth 100000

/-- The term and the coterm of a statement. -/
def partA : Option P → Bs
  | some (.f2 _ m _) => m.text
  | _ => []
def partB : Option P → Bs
  | some (.f2 _ _ k) => k.text
  | _ => []
/-- What CutParts answers. -/
def CPost (o : Option P) (w : World) (e : Ending) (w' : World) : Prop := e = .returned (.tuple #[str (partA o), str (partB o), .bool o.isSome]) ∧ Below w.heap.size w w'

theorem implParts_any (s : ByteArray) (w : World) : Calls Try.prog 6 #[.string s] w (CPost (readS s.data.toList) w) := by
  generalize hz : readS s.data.toList = o
  have hz' := Lib.hid hz
  clear hz
  have hrs := Lib.hid (fun W => readStatement_any s W)
  rw [hz'.out] at hrs
  cases o with
  | none =>
    go_enter Try.func6, Try.ntmps6
    go_wp2_with fail
    refine Calls.mono (hrs.out _) ?_
    rintro e w1 ⟨hb1, rfl⟩
    have hb1' := Lib.hid hb1
    clear hb1
    go_wp2_with fail
    refine bodyPost_ret (by simp [results, Try.results6, go_sem]; exact rfl) rfl ?_
    exact ⟨rfl, hb1'.out⟩
  | some p =>
    obtain ⟨m, k, rfl, hmk⟩ := stm_cut (readS_stm hz'.out).1
    have hst := (readS_stm hz'.out).1
    have hok := hst.ok
    have hsz := hst.sz
    rw [P.ok, Bool.and_eq_true, Bool.and_eq_true] at hok
    rw [P.size] at hsz
    have hTa := Lib.hid (textP_any hok.1.1 (by omega))
    have hTb := Lib.hid (textP_any hok.1.2 (by omega))
    have hta := ta_form_form
    clear hst hok hsz hmk hz'
    go_enter Try.func6, Try.ntmps6
    go_wp2_with fail
    refine Calls.mono (hrs.out _) ?_
    rintro e w1 ⟨hb1, y, rfl, hy⟩
    obtain ⟨g, n, y, z, rfl, hg, h0, hp, h1, hq⟩ := hy
    have mp := fun w => text_m hp w
    have cp := fun x w => text_c m x w
    have mq := fun w => text_m hq w
    have cq := fun x w => text_c k x w
    have hg2 := hg.2
    have hp' := Lib.hid hp
    have hq' := Lib.hid hq
    have hb1' := Lib.hid hb1
    rw [show pt (.f2 cutB m k) = 40 from rfl]
    clear hp hq hb1 hg
    have hS : Hid (∀ W', Below (w1.heap.size + 1) (w1.alloc (.cells #[.string ⟨cutB.toArray⟩, .slice (some ⟨g, 0, none⟩) 2 n] 40)) W' → W'.cell? ⟨w1.heap.size, 1, none⟩ = some (.slice (some ⟨g, 0, none⟩) 2 n) ∧ W'.cell? ⟨g, 0, none⟩ = some (.iface (pt m) y) ∧ W'.cell? ⟨g, 1, none⟩ = some (.iface (pt k) z)) := fun W' h => by
      have hb := (h.block w1.heap.size (by omega)).trans (heap_alloc_new w1 _)
      have hb0 : Below w1.heap.size w1 W' := (bb_alloc (Below.refl _ _) _ : Below w1.heap.size w1 (w1.alloc _)).trans (h.mono (by omega))
      exact ⟨block_cells hb 1 _ rfl, (hb0.cell (p := ⟨g, 0, none⟩) hg2).trans h0, (hb0.cell (p := ⟨g, 1, none⟩) hg2).trans h1⟩
    have hB : Hid (∀ W', Below (w1.heap.size + 1) (w1.alloc (.cells #[.string ⟨cutB.toArray⟩, .slice (some ⟨g, 0, none⟩) 2 n] 40)) W' → Below w1.heap.size w1 W') := fun W' h => (bb_alloc (Below.refl _ _) _ : Below w1.heap.size w1 (w1.alloc _)).trans (h.mono (by omega))
    have hA := Lib.hid (fun W (hW : Below w1.heap.size w1 W) => hTa.out W _ y (hp'.out.below hW (fun g hg => hg.2)) (fun g hg => Nat.lt_of_lt_of_le hg.2 hW.size))
    have hC := Lib.hid (fun W (hW : Below w1.heap.size w1 W) => hTb.out W _ z (hq'.out.below hW (fun g hg => hg.2)) (fun g hg => Nat.lt_of_lt_of_le hg.2 hW.size))
    clear h0 h1
    go_wp2_with fail
    go_region_held3 (fun w' => w'.cell? ⟨w1.heap.size, 1, none⟩ = some (.slice (some ⟨g, 0, none⟩) 2 n) ∧ w'.cell? ⟨g, 0, none⟩ = some (.iface (pt m) y) ∧ w'.cell? ⟨g, 1, none⟩ = some (.iface (pt k) z))
      (first | exact keep0 hS.out | exact keep1 hS.out hb2 | exact keep2 hS.out hb2 hb3)
      (first
        | (refine Calls.mono (hA.out _ (hB.out _ (Below.refl _ _).drew)) ?_; rintro e w2 ⟨rfl, hb2⟩)
        | (refine Calls.mono (hC.out _ (hB.out _ (below_step (Below.refl _ _).drew (by simp) hb2))) ?_; rintro e w3 ⟨rfl, hb3⟩))
    go_wp2_with fail
    refine bodyPost_ret (by simp [results, Try.results6, go_sem]; exact rfl) rfl ?_
    exact ⟨rfl, below_step hb1'.out (Nat.le_refl _) (hB.out _ (below_step (below_step (Below.refl _ _).drew (by simp) hb2) (by simp) hb3))⟩


theorem no_stm {s : Bs} {p : P} (h : readP s = some p) (hk : p.kind ≠ .s) : readS s = none := by unfold readS; rw [h]; simp only; rw [if_neg hk]
theorem no_prog {s : Bs} (h : readP s = none) : readS s = none := by unfold readS; rw [h]

set_option maxHeartbeats 1000000 in
theorem specParts_any (s : ByteArray) (w : World) : Calls Try.prog 5 #[.string s] w (CPost (readS s.data.toList) w) := by
  generalize hz : readS s.data.toList = o
  have hz' := Lib.hid hz
  clear hz
  go_enter Try.func5, Try.ntmps5
  go_wp2_with fail
  refine Calls.mono (l2Read_any s _) ?_
  rintro e w1 ⟨hb1, hp⟩
  have hb1' := Lib.hid hb1
  rcases hp with ⟨p, a, A, n, c, hrd, rfl, htc⟩ | ⟨a, A, n, c, hrd, rfl⟩
  · cases hk : p.kind with
    | t =>
      obtain rfl : none = o := (no_stm hrd (by rw [hk]; decide)).symm.trans hz'.out
      rw [show K.t.let = [116] from rfl]
      clear hrd hk htc hz' hb1
      go_wp2_with fail
      refine bodyPost_ret (by simp [results, Try.results5, go_sem]; exact rfl) rfl ?_
      exact ⟨rfl, bb_alloc hb1'.out _⟩
    | c =>
      obtain rfl : none = o := (no_stm hrd (by rw [hk]; decide)).symm.trans hz'.out
      rw [show K.c.let = [99] from rfl]
      clear hrd hk htc hz' hb1
      go_wp2_with fail
      refine bodyPost_ret (by simp [results, Try.results5, go_sem]; exact rfl) rfl ?_
      exact ⟨rfl, bb_alloc hb1'.out _⟩
    | s =>
      have hrs : readS s.data.toList = some p := by unfold readS; rw [hrd]; simp only; rw [if_pos hk]
      obtain rfl : some p = o := hrs.symm.trans hz'.out
      obtain ⟨m, k, rfl, hmk⟩ := stm_cut (readS_stm hrs).1
      have hok := (readP_ok hrd).1
      have h5 := (readP_ok hrd).2.1
      rw [P.ok, Bool.and_eq_true, Bool.and_eq_true] at hok
      rw [P.size] at h5
      have z1 := P.sz_tree m
      have z2 := P.sz_tree k
      have l1 := P.text_length hok.1.1
      have l2 := P.text_length hok.1.2
      rw [P.text] at l1 l2
      obtain ⟨rfl, rfl, g, rfl, hg, hpa⟩ := htc.part
      obtain ⟨a1, p1, n1, c1, x0, x1, t1⟩ := hpa 1 m.tree rfl
      obtain ⟨a2, p2, n2, c2, y0, y1, t2⟩ := hpa 2 k.tree rfl
      have hg2 := hg.2
      have hT1 := Lib.hid (fun W (hW : Below w1.heap.size w1 W) => text_all 9000 (by omega) m.tree W _ a1 p1 n1 c1 (by omega) (by omega) (t1.below hW (fun g hg => hg.2)) (fun g hg => Nat.lt_of_lt_of_le hg.2 hW.size))
      have hT2 := Lib.hid (fun W (hW : Below w1.heap.size w1 W) => text_all 9000 (by omega) k.tree W _ a2 p2 n2 c2 (by omega) (by omega) (t2.below hW (fun g hg => hg.2)) (fun g hg => Nat.lt_of_lt_of_le hg.2 hW.size))
      rw [show K.s.let = [115] from rfl]
      rw [show ([T.atom cutB, m.tree, k.tree] : List T).length = 3 from rfl]
      clear hpa t1 t2 hrd hk htc hz' hb1 hmk hrs l1 l2 z1 z2 h5 hok hg
      have hS : Hid (∀ W', Below (w1.heap.size + 1) (w1.alloc (.cells #[.string ⟨#[]⟩, .slice (some ⟨g, 0, none⟩) 3 c] 30)) W' → W'.cell? ⟨w1.heap.size, 1, none⟩ = some (.slice (some ⟨g, 0, none⟩) 3 c) ∧ W'.cell? ⟨g, 2, none⟩ = some (.string a1) ∧ W'.cell? ⟨g, 3, none⟩ = some (.slice p1 n1 c1) ∧ W'.cell? ⟨g, 4, none⟩ = some (.string a2) ∧ W'.cell? ⟨g, 5, none⟩ = some (.slice p2 n2 c2)) := fun W' h => by
        have hb := (h.block w1.heap.size (by omega)).trans (heap_alloc_new w1 _)
        have hb0 : Below w1.heap.size w1 W' := (bb_alloc (Below.refl _ _) _ : Below w1.heap.size w1 (w1.alloc _)).trans (h.mono (by omega))
        exact ⟨block_cells hb 1 _ rfl, (hb0.cell (p := ⟨g, 2, none⟩) hg2).trans x0, (hb0.cell (p := ⟨g, 3, none⟩) hg2).trans x1, (hb0.cell (p := ⟨g, 4, none⟩) hg2).trans y0, (hb0.cell (p := ⟨g, 5, none⟩) hg2).trans y1⟩
      have hB : Hid (∀ W', Below (w1.heap.size + 1) (w1.alloc (.cells #[.string ⟨#[]⟩, .slice (some ⟨g, 0, none⟩) 3 c] 30)) W' → Below w1.heap.size w1 W') := fun W' h => (bb_alloc (Below.refl _ _) _ : Below w1.heap.size w1 (w1.alloc _)).trans (h.mono (by omega))
      clear x0 x1 y0 y1
      go_wp2_with fail
      go_region_held3 (fun w' => w'.cell? ⟨w1.heap.size, 1, none⟩ = some (.slice (some ⟨g, 0, none⟩) 3 c) ∧ w'.cell? ⟨g, 2, none⟩ = some (.string a1) ∧ w'.cell? ⟨g, 3, none⟩ = some (.slice p1 n1 c1) ∧ w'.cell? ⟨g, 4, none⟩ = some (.string a2) ∧ w'.cell? ⟨g, 5, none⟩ = some (.slice p2 n2 c2))
        (first | exact keep0 hS.out | exact keep1 hS.out hb2 | exact keep2 hS.out hb2 hb3)
        (first
          | (go_at_call 10; have hq2 := hT2.out w2 (hB.out w2 (below_step (Below.refl _ _).drew (by simp) hb2)); refine Calls.mono hq2 ?_; rintro e w3 ⟨rfl, hb3⟩)
          | (go_at_call 10; refine Calls.mono (hT1.out _ (hB.out _ (Below.refl _ _).drew)) ?_; rintro e w2 ⟨rfl, hb2⟩))
      go_wp2_with fail
      refine bodyPost_ret (by simp [results, Try.results5, go_sem]; exact rfl) rfl ?_
      exact ⟨rfl, below_step hb1'.out (Nat.le_refl _) (hB.out _ (below_step (below_step (Below.refl _ _).drew (by simp) hb2) (by simp) hb3))⟩
  · obtain rfl : none = o := (no_prog hrd).symm.trans hz'.out
    clear hrd hz' hb1
    go_wp2_with fail
    refine bodyPost_ret (by simp [results, Try.results5, go_sem]; exact rfl) rfl ?_
    exact ⟨rfl, bb_alloc hb1'.out _⟩


theorem lawCutParts (s : ByteArray) (_ : s.size ≤ maxLen) (w : World) : Calls Try.prog 3 #[.string s] w fun e w' => e = .returned (.bool true) ∧ Below w.heap.size w w' := by
  have h1 := fun W => specParts_any s W
  have h2 := fun W => implParts_any s W
  unfold CPost at h1 h2
  generalize (readS s.data.toList).isSome = b at h1 h2
  generalize partA (readS s.data.toList) = x at h1 h2
  generalize partB (readS s.data.toList) = y at h1 h2
  have h1' := Lib.hid h1
  have h2' := Lib.hid h2
  clear h1 h2
  by_cases hlen : 1048576 < s.size
  · go_enter Try.func3, Try.ntmps3
    go_wp2_with fail
    go_ret
    exact ⟨rfl, (by repeat (with_reducible first | exact hbel | exact Below.refl _ _ | refine Below.drew ?_ | refine Below.drewN ?_ _ | refine Below.alloc ?_ (by first | (simp; done) | (simp; omega) | omega | (have := Below.size hbel; simp; omega) | (have := Below.size hbel; omega)) _ | refine Below.setCell ?_ (by first | (simp; done) | (simp; omega) | omega) _))⟩
  · go_enter Try.func3, Try.ntmps3
    go_wp2_with fail
    refine Calls.mono (h1'.out _) ?_
    rintro e w1 ⟨rfl, hb1⟩
    go_wp2_with fail
    refine Calls.mono (h2'.out _) ?_
    rintro e w2 ⟨rfl, hb2⟩
    go_wp2_with fail
    go_ret
    exact ⟨rfl, below_step hb1 (Nat.le_refl _) hb2⟩

end Go.Proofs.Ytaagbnbekfogiaa
