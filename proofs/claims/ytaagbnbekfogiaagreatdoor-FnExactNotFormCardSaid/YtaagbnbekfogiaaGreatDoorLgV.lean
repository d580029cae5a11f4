/- A longer form that binds variables: (longerForm[variable]).of. -/
import Derived.Test.YtaagbnbekfogiaaGreatDoorLgC
namespace Go.Proofs.YtaagbnbekfogiaaGreatDoor
set_option linter.unusedVariables false
open Go.RowKit Go.Maps
set_option maxRecDepth 100000

set_option maxHeartbeats 4000000 in
theorem ofV_any {N : Nat} (hN : N ≤ 1000000) (hN2 : 3000 ≤ N) (ts : List Tst) (J : FuncId) (cJ : Array Value) (p R : P) (gt ct : Nat) (w : World) (x : Value) (hito : ITO N w.heap.size w) (hx : LP w p x) (hok : p.ok = true) (hs : p.size ≤ 500) (C : P → P) (hC : ∀ (q : P) (W : World) (D : Nat → Prop) (x y : Value), PI W D p x → PI W D q y → (∀ g, D g → g < W.heap.size) → Calls Tryz.prog 55 #[.iface (pt p) x, .iface (pt q) y] W (LRD D (C q) W)) (hg : gt < w.heap.size) (hl1 : 1 ≤ ts.length) (hl2 : ts.length ≤ 2)
    (hcells : ∀ (i : Nat) (t : Tst), ts[i]? = some t → w.cell? ⟨gt, i, none⟩ = some (.func (.func t.1) #[] t.2.1))
    (htest : ∀ t ∈ ts, Own t.1 ∧ ∀ W, Below w.heap.size w W → Calls Tryz.prog t.1 (#[nameW (nw true p.uses)] ++ t.2.1) W (PPost t.2.2 W))
    (hjf : Own J) (hjoin : ∀ (W : World) (b c : Nat), Below w.heap.size w W → KidP W (fun g => g < W.heap.size) b (ts.map fun t => .bd (nw true p.uses) (C t.2.2)) → b < W.heap.size → Calls Tryz.prog J (#[.slice (some ⟨b, 0, none⟩) ts.length c] ++ cJ) W (LRt R W))
    (hR : R.nok = true) (hRs : R.size ≤ 2000) :
    Calls Tryz.prog 33 #[.agg #[.slice (some ⟨gt, 0, none⟩) ts.length ct, .func (.func J) #[] cJ], .iface (pt p) x] w (LRt R.canon w) := by
  have np := P.nok_ok hok
  have hnm := Lib.hid (fun W (hW : ITO N W.heap.size W) D x h1 h2 => newNameOfV hN np (by omega) (by omega) W D x hW h1 h2)
  have hca := Lib.hid (fun W (hW : ITO N W.heap.size W) D x h1 h2 => canonical_any hN hR (by omega) (by omega) W hW D x h1 h2)
  have hct := Lib.hid hC
  have ea := nw_ne true p.uses
  rw [show cname true (nxt p.uses true 0) = nw true p.uses from rfl] at hnm
  generalize nw true p.uses = a at *
  obtain ⟨a0, a1, rfl⟩ := List.exists_cons_of_ne_nil ea
  rw [show nameW (a0 :: a1) = .agg #[.int .u8 a0.toNat, .string ⟨a1.toArray⟩] from rfl] at hnm htest
  have hito' := Lib.hid hito
  have hx' := Lib.hid hx
  have hcells' := Lib.hid hcells
  have htest' := Lib.hid htest
  have hjoin' := Lib.hid hjoin
  have hjf' := Lib.hid hjf
  clear hito hx hok hC np hcells htest hjoin hjf ea
  have hbx0 := heap_alloc_new w (.cells #[.slice (some ⟨gt, 0, none⟩) ts.length ct, .func (.func J) #[] cJ] 59)
  have hB0 : Below w.heap.size w (w.alloc (.cells #[.slice (some ⟨gt, 0, none⟩) ts.length ct, .func (.func J) #[] cJ] 59)) := bb_alloc (Below.refl _ _) _
  have hn1 := Lib.hid (hnm.out _ (hito'.out.up hB0) _ x (hx'.out.to hB0) (fun g hg => hg))
  have hB0' := Lib.hid hB0
  have hbx0' := Lib.hid hbx0
  clear hB0 hbx0
  go_enter Tryz.func33, Tryz.ntmps33
  go_wp2_with fail
  refine Calls.mono hn1.out ?_
  rintro e w1 ⟨rfl, hb1⟩
  have hb01 := Lib.hid (below_step hB0'.out (Nat.le_refl _) hb1)
  have hs1 := hb1.size
  have hbx1 := Lib.hid ((hb1.block w.heap.size (by simp)).trans hbx0'.out)
  simp at hs1
  obtain ⟨zb, s0, s1, -, -⟩ := two_cells hbx1.out
  clear hb1
  go_wp2_with fail
  clear s0 s1
  have hW2 : ∀ W2, W2 = w1.alloc (.cells #[.int .u8 a0.toNat, .string ⟨a1.toArray⟩] 41) → Below w.heap.size w W2 ∧ W2.heap[w.heap.size]? = some (.cells #[.slice (some ⟨gt, 0, none⟩) ts.length ct, .func (.func J) #[] cJ] 59 (0, 0)) ∧ W2.heap[w1.heap.size]? = some (.cells #[.int .u8 a0.toNat, .string ⟨a1.toArray⟩] 41 (0, 0)) ∧ w1.heap.size + 1 ≤ W2.heap.size := by
    rintro W2 rfl
    exact ⟨bb_alloc hb01.out _, (Below.heap_alloc w1 _ _ zb).trans hbx1.out, heap_alloc_new w1 _, by simp⟩
  obtain ⟨i0, hi0, hz0, hz1, hz2⟩ := info_parts infoProgram
  have hparts : ∀ (j : Nat) (t : Tst), ts[j]? = some t → (ts.map fun t => P.bd (a0 :: a1) (C t.2.2))[j]? = some (P.bd (a0 :: a1) (C t.2.2)) := fun j t h => by rw [List.getElem?_map, h]; rfl
  have hparts' := Lib.hid hparts
  have hpl : (ts.map fun t => P.bd (a0 :: a1) (C t.2.2)).length = ts.length := by simp
  have hpl' := Lib.hid hpl
  clear hparts hpl
  generalize (ts.map fun t => P.bd (a0 :: a1) (C t.2.2)) = ks at *
  go_loopw [6, 14] (fun v i wr => ∃ (j : Nat) (A1 : Option Addr) (c1 : Nat) (ys : List Value), j ≤ ts.length ∧ i = .int .i64 j ∧ v = .slice A1 j c1 ∧ wr.ownsRow (w1.heap.size + 1) 36 1 (.slice A1 j c1) j ys ∧ PRow wr (fun g => g < wr.heap.size ∧ (Value.slice A1 j c1).ownBlock ≠ some g) (ks.take j) ys ∧
      Below w.heap.size w wr ∧ wr.heap[w.heap.size]? = some (.cells #[.slice (some ⟨gt, 0, none⟩) ts.length ct, .func (.func J) #[] cJ] 59 (0, 0)) ∧ wr.heap[w1.heap.size]? = some (.cells #[.int .u8 a0.toNat, .string ⟨a1.toArray⟩] 41 (0, 0)) ∧ w1.heap.size + 1 ≤ wr.heap.size) (fun _ i _ => ts.length - (intOf i).toNat)
  case atStart =>
    obtain ⟨h1, h2, h3, h4⟩ := hW2 _ rfl
    exact ⟨0, none, 0, [], Nat.zero_le _, rfl, rfl, World.ownsRow_nil _ _ _ _, rfl, h1, h2, h3, h4⟩
  case round =>
    obtain ⟨j, A1, c1, ys, hj, rfl, rfl, own, hys, hbel, hbox, hnb, hsz⟩ := hrel
    have own' := Lib.hid own
    have hys' := Lib.hid hys
    have hbel' := Lib.hid hbel
    have hbox' := Lib.hid hbox
    have hnb' := Lib.hid hnb
    clear hW2 own hys hbox hnb
    by_cases hlt : j < ts.length
    · obtain ⟨t, ht⟩ : ∃ t, ts[j]? = some t := ⟨ts[j], List.getElem?_eq_getElem _⟩
      obtain ⟨F, cF, q⟩ := t
      have hy1 := (hbel.cell (p := ⟨gt, j, none⟩) hg).trans (hcells'.out j _ ht)
      obtain ⟨hown, htst⟩ := htest'.out _ (List.mem_of_getElem? ht)
      have hT : Hid (∀ W, Below w.heap.size w W → Calls Tryz.prog F (#[.agg #[.int .u8 a0.toNat, .string ⟨a1.toArray⟩]] ++ cF) W (PPost q W)) := htst
      have hK : Hid (ks[j]? = some (P.bd (a0 :: a1) (C q))) := hparts'.out j _ ht
      have hF1 : ∀ (x : Array Value) (w : World), (callFunc F x).run Tryz.prog w = .ok (.enter F x) w := hown
      have hT1 := Lib.hid (hT.out wr.drew (below_step hbel (Nat.le_refl _) (Below.refl _ _).drew))
      have hS : Hid (∀ W, Below wr.heap.size wr W → W.cell? ⟨w1.heap.size, 0, none⟩ = some (.int .u8 a0.toNat) ∧ W.cell? ⟨w1.heap.size, 1, none⟩ = some (.string ⟨a1.toArray⟩)) := fun W hW => by
        have h := (hW.block w1.heap.size (by omega)).trans hnb'.out
        exact ⟨block_cells h 0 _ rfl, block_cells h 1 _ rfl⟩
      clear hown htst ht hbel
      simp only at hy1 hF1
      go_wp2_with fail
      go_region_held3 (fun W => W.cell? ⟨w1.heap.size, 0, none⟩ = some (.int .u8 a0.toNat) ∧ W.cell? ⟨w1.heap.size, 1, none⟩ = some (.string ⟨a1.toArray⟩))
        (first | exact ⟨block_cells hnb5.out 0 _ rfl, block_cells hnb5.out 1 _ rfl⟩ | exact hS.out _ (bb_alloc hb3'.out _) | exact hS.out w3 hb3'.out | exact hS.out w2 hb2'.out | exact hS.out _ (Below.refl _ _).drew)
        (first
          | (refine step_append_lies _ (by rfl) _ _ _ (by rfl) (w1.heap.size + 1) 36 i0 _ 1 16 Tryz.underlying75 hi0 hz0 hz1 hz2 rfl (by decide) (.slice A1 j c1) j _ (by rfl) (hown3.out z) ⟨w3.heap.size, 0, none⟩ 1 1 [.iface 46 (.agg #[.int .u8 a0.toNat, .string ⟨a1.toArray⟩, .iface (pt (C q)) z])] (by rfl) rfl (World.news_of_block (cs := #[.iface 46 (.agg #[.int .u8 a0.toNat, .string ⟨a1.toArray⟩, .iface (pt (C q)) z])]) (heap_alloc_new w3 _)) (by intro u hu; simp at hu; rw [hu]; rfl) (by decide) (by unfold maxLen; omega) (by omega) (by simp; omega) (w3.heap.size + 1) (by simp) ?_; intro g4 c4 w5 own4 hgrow hat hlt5; have own4' := Lib.hid own4; have hgr := Lib.hid hgrow; have hat' := Lib.hid hat; have hnb5 := Lib.hid ((hgrow.block w1.heap.size (by simp; omega) (fun e => by have := (own'.out.lt _ e.symm).1; omega)).trans (((bb_alloc hb3'.out _ : Below wr.heap.size wr (w3.alloc _)).block w1.heap.size (by omega)).trans hnb'.out)); clear own4 hgrow hat)
          | (go_at_call 55; have hq := hct.out q w2 (fun g => g < w.heap.size ∨ New wr.heap.size w2 g) x y hx2.out hy2.out hD2.out; refine Calls.mono hq ?_; rintro e w3 ⟨z, rfl, hz, hb3⟩; have hb3' := Lib.hid (below_step hb2'.out (Nat.le_refl _) hb3); have hz3 := Lib.hid hz; have hb23 := Lib.hid hb3; have hown3 := Lib.hid (fun z => own_below own'.out (bb_alloc hb3'.out (.cells #[.iface 46 (.agg #[.int .u8 a0.toNat, .string ⟨a1.toArray⟩, .iface (pt (C q)) z])] 36))); have hs3 := hb3'.out.size; clear hz hb3)
          | (refine Calls.mono hT1.out ?_; rintro e w2 ⟨y, rfl, hy2', hb2⟩; have hb2' := Lib.hid (below_step (Below.refl _ _).drew (Nat.le_refl _) hb2 : Below wr.heap.size wr w2); have hs2 := hb2'.out.size; have hy2 : Hid (PI w2 (fun g => g < w.heap.size ∨ New wr.heap.size w2 g) q y) := Lib.hid (hy2'.to (fun g hg => .inr hg)); have hx2 : Hid (PI w2 (fun g => g < w.heap.size ∨ New wr.heap.size w2 g) p x) := Lib.hid ((PI.below hx'.out (below_step hbel'.out (Nat.le_refl _) hb2'.out) (fun g hg => hg)).to (fun g hg => .inl hg)); have hD2 : Hid (∀ g, (g < w.heap.size ∨ New wr.heap.size w2 g) → g < w2.heap.size) := fun g hg => by { rcases hg with hg | hg; omega; exact hg.2 }; clear hy2' hb2))
      have hpart : Hid (PI w3 (fun g => g < w3.heap.size ∧ (Value.slice A1 j c1).ownBlock ≠ some g) (P.bd (a0 :: a1) (C q)) (.agg #[.int .u8 a0.toNat, .string ⟨a1.toArray⟩, .iface (pt (C q)) z])) := ⟨a0, a1, z, rfl, rfl, hz3.out.to (fun g hg => by
        have hlt3 : ∀ g, (Value.slice A1 j c1).ownBlock = some g → w1.heap.size + 1 ≤ g ∧ g < wr.heap.size := fun g e => own'.out.lt g e
        rcases hg with (hg | hg) | hg
        · exact ⟨by omega, fun e => by have := hlt3 g e; omega⟩
        · exact ⟨Nat.lt_of_lt_of_le hg.2 hb23.out.size, fun e => by have := hlt3 g e; have := hg.1; omega⟩
        · exact ⟨hg.2, fun e => by have := hlt3 g e; have := hg.1; omega⟩)⟩
      have hrow := Lib.hid (prow_stepD (m := j + 1) (cap := c4) own'.out hys'.out hb3'.out hpart.out (bb_alloc (Below.refl _ _) _) hgr.out (by rcases hat'.out with h | h; exact .inl h; exact .inr (by rw [h]; simp)))
      have hk1 := Lib.hid (show ks.take (j + 1) = ks.take j ++ [P.bd (a0 :: a1) (C q)] from by rw [List.take_add_one, hK.out]; rfl)
      have hB5 := Lib.hid ((below_step hbel'.out (Nat.le_refl _) (bb_alloc hb3'.out _)).grown hgr.out (by simp; omega) (fun k hk => by have := (own'.out.lt k hk).1; omega))
      have hbox5 := Lib.hid ((hgr.out.block w.heap.size (by simp; omega) (fun e => by have := (own'.out.lt _ e.symm).1; omega)).trans (((bb_alloc hb3'.out _ : Below wr.heap.size wr (w3.alloc _)).block w.heap.size (by omega)).trans hbox'.out))
      have hs5 := hgr.out.size
      simp at hs5
      clear hy1 hF1 hlt5
      go_wp2_with fail
      go_roundw
      case rel => exact ⟨j + 1, some ⟨g4, 0, none⟩, c4, _, by omega, by go_num, rfl, own4'.out, by rw [hk1.out]; exact hrow.out, hB5.out, hbox5.out, hnb5.out, by omega⟩
      case measure => simp [intOf]; omega
    · have e : j = ts.length := by omega
      subst e
      obtain ⟨g2, cap, hv, -, hlt2⟩ := own'.out.form (by omega)
      have hA : A1 = some ⟨g2, 0, none⟩ := by injection hv
      subst hA
      have hkid : Hid (∀ W, Below wr.heap.size wr W → KidP W (fun g => g < W.heap.size) g2 ks) := fun W hW i q hi => by
        have hi' : (ks.take ts.length)[i]? = some q := by rw [List.take_of_length_le (by rw [hpl'.out]; exact Nat.le_refl _)]; exact hi
        obtain ⟨y, h1, h2⟩ := PRow.at_ hys'.out hi'
        have h3 := own'.out.cells (g := g2) rfl i _ h1
        have e : ({ block := g2, off := 0, spot := none } : Addr).add i = ⟨g2, i, none⟩ := by unfold Addr.add; split <;> simp_all
        rw [e] at h3
        exact ⟨y, (hW.cell (p := ⟨g2, i, none⟩) hlt2).trans h3, (h2.below hW (fun g hg => hg.1)).to (fun g hg => Nat.lt_of_lt_of_le hg.1 hW.size)⟩
      have hJ := Lib.hid (hjoin'.out wr g2 c1 hbel (hkid.out wr (Below.refl _ _)) hlt2)
      have hjf1 : ∀ (x : Array Value) (w : World), (callFunc J x).run Tryz.prog w = .ok (.enter J x) w := hjf'.out
      obtain ⟨zb, s0, s1, -, -⟩ := two_cells hbox'.out
      clear hbel hv
      go_wp2_with fail
      refine Calls.mono hJ.out ?_
      rintro e w2 ⟨y, rfl, hy, hb2⟩
      have hb02 := Lib.hid (below_step hbel'.out (Nat.le_refl _) hb2)
      have hcc := Lib.hid (hca.out w2 (hito'.out.up hb02.out) _ y hy (fun g hg => hg))
      clear hy hb2 s0 s1 hjf1
      go_wp2_with fail
      refine Calls.mono hcc.out ?_
      rintro e w3 ⟨z, rfl, hz, hb3⟩
      have hfin := Lib.hid (show LRt R.canon w (.returned (.iface (pt R.canon) z)) w3 from ⟨z, rfl, hz.to (fun g hg => hg.2), below_step hb02.out (Nat.le_refl _) hb3⟩)
      clear hz hb3
      go_wp2_with fail
      go_ret
      exact hfin.out

end Go.Proofs.YtaagbnbekfogiaaGreatDoor
