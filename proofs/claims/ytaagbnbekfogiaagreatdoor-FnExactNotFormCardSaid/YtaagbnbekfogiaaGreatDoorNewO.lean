/- impl.newName. impl.resultName, bindsVariables, newNameOf, cutOf. -/
import Derived.Test.YtaagbnbekfogiaaGreatDoorCan
import Derived.Test.YtaagbnbekfogiaaGreatDoorRowB
import Derived.Test.YtaagbnbekfogiaaGreatDoorNameF
import Derived.Test.YtaagbnbekfogiaaGreatDoorRdS
namespace Go.Proofs.YtaagbnbekfogiaaGreatDoor
set_option linter.unusedVariables false
open Go.RowKit Go.Maps
set_option maxRecDepth 100000

/-- Programs in a slice's block. -/
def KidP (w : World) (D : Nat → Prop) (g : Nat) (ks : List P) : Prop := ∀ (i : Nat) (q : P), ks[i]? = some q → ∃ y, w.cell? ⟨g, i, none⟩ = some (.iface (pt q) y) ∧ PI w D q y

set_option maxHeartbeats 4000000 in
theorem newName_any {N : Nat} (hN : N ≤ 1000000) (ks : List P) (hk : ∀ q ∈ ks, q.nok = true ∧ q.size ≤ 99000) (hn : ∀ j, (usesL (ks.take j)).length ≤ 100000) (hlt : (usesL ks).length < N) (hks : ks.length ≤ 10) (c : UInt8) (d : Bs) (g n : Nat) (w : World) (D : Nat → Prop)
    (hito : ITO N w.heap.size w) (hg : g < w.heap.size) (hc : KidP w D g ks) (hD : ∀ g, D g → g < w.heap.size) :
    Calls Tryz.prog 50 #[nameV c d, .slice (some ⟨g, 0, none⟩) ks.length n] w fun e w' => e = .returned (nameW (cname (varB c) (nxt (usesL ks) (varB c) 0))) ∧ Below w.heap.size w w' := by
  obtain ⟨i0, hi0, hz0, hz1, hz2⟩ := info_parts infoName
  have hUS := Lib.hid (fun q (hq : q ∈ ks) => uses_nok (hk q hq).1 (hk q hq).2)
  have hnames : Hid (NamesOk (usesL ks)) := fun s hs => by
    obtain ⟨q, hq, hs⟩ := List.mem_flatMap.1 hs
    exact names_ok (hk q hq).1 s hs
  have hD' := Lib.hid hD
  have hc' := Lib.hid hc
  have hn' := Lib.hid hn
  have hlt' := Lib.hid hlt
  have hlen0 : (usesL ks).length ≤ 100000 := by have := hn ks.length; rwa [List.take_length] at this
  have hnext : Hid (∀ W, Below w.heap.size w W → ∀ r bf bc, w.heap.size ≤ bc → RN W r bf bc (usesL ks) ⟨0, 0⟩ → Calls Tryz.prog 82 #[.pointer (some ⟨r, 0, none⟩), nameV c d] W fun e w' => e = .returned (nameW (cname (varB c) (nxt (usesL ks) (varB c) 0))) ∧ W.grownBy w' (some bc)) := fun W hW r bf bc hbc hrn => by
    have hg0 : (⟨0, 0⟩ : St).get (varB c) = 0 := by cases varB c <;> rfl
    have h := next_any r bf bc (usesL ks) ⟨0, 0⟩ 0 c d W (hito.below hW (Nat.le_refl _)) hbc hW.size hN hrn hnames.out (stOk_zero _) (by omega)
    rw [hg0] at h
    exact Calls.mono h (fun e w' h => ⟨h.1, h.2.2⟩)
  generalize cname (varB c) (nxt (usesL ks) (varB c) 0) = nn at *
  clear hk hD hc hn hito
  have hW0 : ∀ W0, W0 = (w.alloc (.cells #[.int .u8 c.toNat, str d] 41)).alloc (.cells #[.int .u8 0, .string ⟨#[]⟩] 41) → Below w.heap.size w W0 ∧ W0.heap[w.heap.size]? = some (.cells #[.int .u8 c.toNat, str d] 41 (0, 0)) ∧ W0.heap[w.heap.size + 1]? = some (.cells #[.int .u8 0, .string ⟨#[]⟩] 41 (0, 0)) ∧ w.heap.size + 2 ≤ W0.heap.size := by
    rintro W0 rfl
    exact ⟨bb_alloc (bb_alloc (Below.refl _ _) _) _, first_alloc w _ _, second_alloc w _ _, by simp⟩
  go_enter Tryz.func50, Tryz.ntmps50
  go_wp2_with fail
  go_loopw [5, 10] (fun v i wr => ∃ (j : Nat) (A1 : Option Addr) (c1 : Nat), j ≤ ks.length ∧ i = .int .i64 j ∧ v = .slice A1 (usesL (ks.take j)).length c1 ∧ wr.ownsRow (w.heap.size + 2) 41 2 (.slice A1 (usesL (ks.take j)).length c1) (usesL (ks.take j)).length (NVs (usesL (ks.take j))) ∧ Below w.heap.size w wr ∧
      wr.heap[w.heap.size]? = some (.cells #[.int .u8 c.toNat, str d] 41 (0, 0)) ∧ wr.heap[w.heap.size + 1]? = some (.cells #[.int .u8 0, .string ⟨#[]⟩] 41 (0, 0)) ∧ w.heap.size + 2 ≤ wr.heap.size) (fun _ i _ => ks.length - (intOf i).toNat)
  case atStart =>
    obtain ⟨h1, h2, h3, h4⟩ := hW0 _ rfl
    exact ⟨0, none, 0, Nat.zero_le _, rfl, rfl, World.ownsRow_nil _ _ _ _, h1, h2, h3, h4⟩
  case round =>
    obtain ⟨j, A1, c1, hj, rfl, rfl, own1, hbel, hbn, hbr, hsz⟩ := hrel
    have hbel' := Lib.hid hbel
    have own1' := Lib.hid own1
    have hbn' := Lib.hid hbn
    have hbr' := Lib.hid hbr
    clear own1 hbn hbr hW0
    by_cases hlt : j < ks.length
    · obtain ⟨q, hq⟩ : ∃ q, ks[j]? = some q := ⟨ks[j], List.getElem?_eq_getElem _⟩
      obtain ⟨y, hy, hpi⟩ := hc'.out j q hq
      have hy1 := (hbel.cell (p := ⟨g, j, none⟩) hg).trans hy
      have hsum := Lib.hid (usesL_take hq)
      have hn1 := hn'.out (j + 1)
      have hn2 : (usesL (ks.take j)).length + q.uses.length ≤ 100000 := by rw [hsum.out, List.length_append] at hn1; exact hn1
      have hUSq := hUS.out q (List.mem_of_getElem? hq)
      have mq := fun w => uses_m hpi w
      have cq := fun x w => uses_c q x w
      have hcall := Lib.hid (hUSq wr D _ (hpi.below hbel hD'.out) (fun g hg => by have := hD'.out g hg; have := hbel.size; omega))
      clear hy hpi hq hbel hn1 hUSq
      go_wp2_with fail
      refine Calls.mono hcall.out ?_
      rintro e w1 ⟨A2, c2, rfl, own2, hb1⟩
      have own1'' := Lib.hid (own_below own1'.out hb1)
      have own2' := Lib.hid own2
      have hs2 := hb1.size
      have hb1' := Lib.hid (below_step hbel'.out (Nat.le_refl _) hb1)
      have hbn1 := Lib.hid ((hb1.block w.heap.size (by omega)).trans hbn'.out)
      have hbr1 := Lib.hid ((hb1.block (w.heap.size + 1) (by omega)).trans hbr'.out)
      clear own2 hb1 own1'
      go_wp2_with (first
        | (at_builtin; go_loud (refine wpList_append_row rfl (.tmp 14) (.tmp 16) 85 rfl (w.heap.size + 2) 41 i0 _ 2 24 Tryz.underlying85 hi0 hz0 hz1 hz2 rfl (by decide) _ _ _ rfl own1''.out wr.heap.size _ _ _ rfl own2'.out ?c1 ?c2 ?c3 ?c4 ?_))
        | fail)
      case c1 => exact NVs_one _
      case c2 => unfold maxLen; omega
      case c3 => omega
      case c4 => omega
      intro A3 c3 w2 own3 hgrow
      have hfin := Lib.hid (show w2.ownsRow (w.heap.size + 2) 41 2 (.slice A3 (usesL (ks.take (j + 1))).length c3) (usesL (ks.take (j + 1))).length (NVs (usesL (ks.take (j + 1)))) from by
        rw [hsum.out, NVs_append, List.length_append]; exact own3)
      have hlen := Lib.hid (show (usesL (ks.take (j + 1))).length = (usesL (ks.take j)).length + q.uses.length from by rw [hsum.out, List.length_append])
      have hlo : ∀ k, (Value.slice A1 (usesL (ks.take j)).length c1).ownBlock = some k → w.heap.size + 2 ≤ k := fun k hk => (own1''.out.lt k hk).1
      have hb2 := Lib.hid (hb1'.out.grown hgrow (by omega) (fun k hk => by have := hlo k hk; omega))
      have hbn2 := Lib.hid ((hgrow.block w.heap.size (by omega) (fun e => by have := hlo _ e.symm; omega)).trans hbn1.out)
      have hbr2 := Lib.hid ((hgrow.block (w.heap.size + 1) (by omega) (fun e => by have := hlo _ e.symm; omega)).trans hbr1.out)
      have hsz2 := hgrow.size
      clear own3 hgrow hlo
      go_wp2_with fail
      go_roundw
      case rel => exact ⟨j + 1, A3, c3, by omega, by go_num, by rw [hlen.out], hfin.out, hb2.out, hbn2.out, hbr2.out, by omega⟩
      case measure => simp [intOf]; omega
    · have e : j = ks.length := by omega
      subst e
      have hsum : usesL (ks.take ks.length) = usesL ks := by rw [List.take_of_length_le (by simp)]
      rw [hsum] at own1' ⊢
      have hS : Hid (∀ W, Below wr.heap.size wr W → W.cell? ⟨w.heap.size, 0, none⟩ = some (.int .u8 c.toNat) ∧ W.cell? ⟨w.heap.size, 1, none⟩ = some (str d)) := fun W hW => by
        have h := (hW.block w.heap.size (by omega)).trans hbn'.out
        exact ⟨block_cells h 0 _ rfl, block_cells h 1 _ rfl⟩
      have hR : Hid (∀ W : World, wr.heap.size ≤ W.heap.size → W.heap[w.heap.size + 1]? = some (.cells #[.int .u8 0, .string ⟨#[]⟩] 41 (0, 0)) → (w.heap.size + 1 < W.heap.size ∧ W.cell? ⟨w.heap.size + 1, 0, none⟩ = some (.int .u8 0) ∧ W.cell? ⟨w.heap.size + 1, 1, none⟩ = some (.string ⟨#[]⟩) ∧ W.frozen? ⟨w.heap.size + 1, 0, none⟩ = false ∧ W.frozen? ⟨w.heap.size + 1, 1, none⟩ = false)) := fun W hW h => two_cells h
      have hrow := Lib.hid (fun W (hW : Below wr.heap.size wr W) => RowN.of_own (own_below own1'.out hW))
      clear hlt hsum hbel
      go_wp2_with fail
      go_region_held3 (fun W => W.cell? ⟨w.heap.size, 0, none⟩ = some (.int .u8 c.toNat) ∧ W.cell? ⟨w.heap.size, 1, none⟩ = some (str d))
        (first | exact keep_set (hS.out w5 hb5'.out) (by omega) | exact hS.out w5 hb5'.out | exact hS.out w4 hb4'.out | exact hS.out _ (Below.refl _ _).drew)
        (first
          | (go_at_call 82; (have hq := hnext.out w4 (below_step hbel'.out (Nat.le_refl _) hb4'.out) r bf bc (by omega) hrn; refine Calls.mono hq ?_; rintro e w5 ⟨rfl, hgr5⟩; have hbr5 := (hgr5.block (w.heap.size + 1) (by omega) (fun e => by injection e with e; omega)).trans hbr4.out; have hs5 := hgr5.size; obtain ⟨z1c, q0, q1, f0, f1⟩ := hR.out w5 (by omega) hbr5; have hb5' := Lib.hid (hb4'.out.grown hgr5 hb4'.out.size (fun k hk => by injection hk with hk; omega))))
          | (go_at_call 52; have hq := newRenamer_any A1 _ c1 (usesL ks) wr.drew (hrow.out _ (Below.refl _ _).drew) (by omega) hnames.out; refine Calls.mono hq ?_; rintro e w4 ⟨r, bf, bc, rfl, hrn, g1, g2, g3, hb4⟩; have hb4' := Lib.hid (below_step (Below.refl _ _).drew (Nat.le_refl _) hb4 : Below wr.heap.size wr w4); have hs4 := hb4'.out.size; have g3' : wr.heap.size ≤ bc := g3; have hbr4 := Lib.hid ((hb4'.out.block (w.heap.size + 1) (by omega)).trans hbr'.out); clear hb4))
      go_wp2_with fail
      refine bodyPost_ret (v := nameW nn) (by simp [results, Tryz.results50, go_sem, q0, q1]) rfl ?_
      exact ⟨rfl, ((below_step hbel'.out (Nat.le_refl _) hb5'.out).setCell (by simp) _).setCell (by simp) _⟩

end Go.Proofs.YtaagbnbekfogiaaGreatDoor

namespace Go.Proofs.YtaagbnbekfogiaaGreatDoor
set_option linter.unusedVariables false
open Go.RowKit Go.Maps
set_option maxRecDepth 100000

theorem resultName_any (w : World) : Calls Tryz.prog 47 #[] w fun e w' => e = .returned (.agg #[.int .u8 107, .string ⟨#[]⟩]) ∧ Below w.heap.size w w' := by
  have e1 : ∀ h, (⟨#[107, 108, 109]⟩ : ByteArray)[0]'h = 107 := fun _ => rfl
  go_enter Tryz.func47, Tryz.ntmps47
  go_wp2_with fail
  refine bodyPost_ret (by simp [results, Tryz.results47, go_sem]; exact rfl) rfl ?_
  exact ⟨rfl, (by repeat (with_reducible first | exact hbel | exact Below.refl _ _ | refine Below.drew ?_ | refine Below.drewN ?_ _ | refine Below.alloc ?_ (by first | (simp; done) | (simp; omega) | omega | (have := Below.size hbel; simp; omega) | (have := Below.size hbel; omega)) _ | refine Below.setCell ?_ (by first | (simp; done) | (simp; omega) | omega) _))⟩

theorem vkind_any (a b : Value) (w : World) : Calls Tryz.prog 202 #[.agg #[a, b]] w fun e w' => e = .returned (str [116, 101, 114, 109]) ∧ Below w.heap.size w w' := by
  go_enter Tryz.func202, Tryz.ntmps202
  go_wp2_with fail
  go_ret
  exact ⟨rfl, (by repeat (with_reducible first | exact hbel | exact Below.refl _ _ | refine Below.drew ?_ | refine Below.drewN ?_ _ | refine Below.alloc ?_ (by first | (simp; done) | (simp; omega) | omega | (have := Below.size hbel; simp; omega) | (have := Below.size hbel; omega)) _ | refine Below.setCell ?_ (by first | (simp; done) | (simp; omega) | omega) _))⟩
theorem ckind_any (a b : Value) (w : World) : Calls Tryz.prog 194 #[.agg #[a, b]] w fun e w' => e = .returned (str [99, 111, 116, 101, 114, 109]) ∧ Below w.heap.size w w' := by
  go_enter Tryz.func194, Tryz.ntmps194
  go_wp2_with fail
  go_ret
  exact ⟨rfl, (by repeat (with_reducible first | exact hbel | exact Below.refl _ _ | refine Below.drew ?_ | refine Below.drewN ?_ _ | refine Below.alloc ?_ (by first | (simp; done) | (simp; omega) | omega | (have := Below.size hbel; simp; omega) | (have := Below.size hbel; omega)) _ | refine Below.setCell ?_ (by first | (simp; done) | (simp; omega) | omega) _))⟩
theorem vkind_m (x : Value) (w : World) : (method 297 47 x "loop.example/classicalcontrol/impl.kind").run Tryz.prog w = .ok (202, x) w := by kernel_rfl
theorem ckind_m (x : Value) (w : World) : (method 297 44 x "loop.example/classicalcontrol/impl.kind").run Tryz.prog w = .ok (194, x) w := by kernel_rfl

theorem bindsV_any (w : World) : Calls Tryz.prog 51 #[] w fun e w' => e = .returned (.bool true) ∧ Below w.heap.size w w' := by
  have h1 := vkind_m
  go_enter Tryz.func51, Tryz.ntmps51
  go_wp2_with (refine Calls.mono (vkind_any _ _ _) ?_; rintro e w1 ⟨rfl, hb1⟩)
  go_ret
  exact ⟨rfl, below_step (by repeat (with_reducible first | exact hbel | exact Below.refl _ _ | refine Below.drew ?_ | refine Below.drewN ?_ _ | refine Below.alloc ?_ (by first | (simp; done) | (simp; omega) | omega | (have := Below.size hbel; simp; omega) | (have := Below.size hbel; omega)) _ | refine Below.setCell ?_ (by first | (simp; done) | (simp; omega) | omega) _)) (by simp) hb1⟩
theorem bindsC_any (w : World) : Calls Tryz.prog 48 #[] w fun e w' => e = .returned (.bool false) ∧ Below w.heap.size w w' := by
  have h1 := ckind_m
  go_enter Tryz.func48, Tryz.ntmps48
  go_wp2_with (refine Calls.mono (ckind_any _ _ _) ?_; rintro e w1 ⟨rfl, hb1⟩)
  go_ret
  exact ⟨rfl, below_step (by repeat (with_reducible first | exact hbel | exact Below.refl _ _ | refine Below.drew ?_ | refine Below.drewN ?_ _ | refine Below.alloc ?_ (by first | (simp; done) | (simp; omega) | omega | (have := Below.size hbel; simp; omega) | (have := Below.size hbel; omega)) _ | refine Below.setCell ?_ (by first | (simp; done) | (simp; omega) | omega) _)) (by simp) hb1⟩

/-- The new name of one program. -/
theorem newName1 {N : Nat} (hN : N ≤ 1000000) {p : P} (hok : p.nok = true) (hs : p.size ≤ 99000) (hs2 : p.size < N) (c : UInt8) (d : Bs) (w : World) (D : Nat → Prop) (x : Value) (g n : Nat) (hito : ITO N w.heap.size w) (hg : g < w.heap.size) (h0 : w.cell? ⟨g, 0, none⟩ = some (.iface (pt p) x)) (hx : PI w D p x) (hD : ∀ g, D g → g < w.heap.size) :
    Calls Tryz.prog 50 #[nameV c d, .slice (some ⟨g, 0, none⟩) 1 n] w fun e w' => e = .returned (nameW (cname (varB c) (nxt p.uses (varB c) 0))) ∧ Below w.heap.size w w' := by
  have hul := p.uses_len
  have hu : usesL [p] = p.uses := by simp [usesL]
  have h := newName_any hN [p] (fun q hq => by simp at hq; subst hq; exact ⟨hok, hs⟩) (fun j => by
    rcases j with _ | j
    · simp [usesL]
    · simp [usesL]; omega) (by rw [hu]; omega) (by simp) c d g n w D hito hg (fun i q hi => by
      rcases i with _ | i
      · simp at hi; subst hi; exact ⟨x, h0, hx⟩
      · simp at hi) hD
  rw [hu] at h
  exact h

theorem ITO.up {N : Nat} {w W : World} (h : ITO N w.heap.size w) (hW : Below w.heap.size w W) : ITO N W.heap.size W := (h.below hW (Nat.le_refl _)).less hW.size

set_option maxHeartbeats 1000000 in
theorem newNameOfC {N : Nat} (hN : N ≤ 1000000) {p : P} (hok : p.nok = true) (hs : p.size ≤ 99000) (hs2 : p.size < N) (w : World) (D : Nat → Prop) (x : Value) (hito : ITO N w.heap.size w) (hx : PI w D p x) (hD : ∀ g, D g → g < w.heap.size) :
    Calls Tryz.prog 24 #[.iface (pt p) x] w fun e w' => e = .returned (nameW (cname false (nxt p.uses false 0))) ∧ Below w.heap.size w w' := by
  have hnn := Lib.hid (fun W g n (hW : Below w.heap.size w W) (hg : g < W.heap.size) h0 => newName1 hN hok hs hs2 107 [] W D x g n (hito.up hW) hg h0 (hx.below hW hD) (fun g hg => Nat.lt_of_lt_of_le (hD g hg) hW.size))
  rw [show varB 107 = false from by decide] at hnn
  generalize cname false (nxt p.uses false 0) = nn at *
  clear hito hx hD
  go_enter Tryz.func24, Tryz.ntmps24
  go_wp2_with (first
    | (go_at_call 47; refine Calls.mono (resultName_any _) ?_; rintro e w1 ⟨rfl, hb1⟩; have hs1 := hb1.size; simp at hs1)
    | (go_at_call 48; refine Calls.mono (bindsC_any _) ?_; rintro e w2 ⟨rfl, hb2⟩; have hs2' := hb2.size; simp at hs2'; obtain ⟨zz, s0, s1, -, -⟩ := two_cells ((hb2.block w1.heap.size (by simp)).trans (heap_alloc_new w1 _)); have hb02 := Lib.hid (below_step (bb_alloc (below_step (bb_alloc (Below.refl _ _) _) (Nat.le_refl _) hb1) _) (Nat.le_refl _) hb2 : Below w.heap.size w w2); have hr2 := Lib.hid ((hb2.block w.heap.size (by simp; omega)).trans ((bb_alloc (Below.refl _ _) _ : Below w1.heap.size w1 (w1.alloc _)).block w.heap.size (by omega) |>.trans ((hb1.block w.heap.size (by simp)).trans (heap_alloc_new w _)))); clear hb1 hb2)
    | (go_at_call 50; have hq := hnn.out (w2.alloc (.cells #[.iface (pt p) x] 36)) w2.heap.size 1 (bb_alloc hb02.out _) (by simp) (block_cells (heap_alloc_new w2 _) 0 _ rfl); refine Calls.mono hq ?_; rintro e w3 ⟨rfl, hb3⟩; have hs3 := hb3.size; simp at hs3; obtain ⟨zr, r0, r1, fr0, fr1⟩ := two_cells ((hb3.block w.heap.size (by simp; omega)).trans ((Below.heap_alloc w2 _ w.heap.size (by omega)).trans hr2.out)); have hb03 := Lib.hid (below_step (bb_alloc hb02.out _) (Nat.le_refl _) hb3 : Below w.heap.size w w3); clear hb3))
  refine bodyPost_ret (v := nameW nn) (by simp [results, Tryz.results24, go_sem, r0, r1]) rfl ?_
  exact ⟨rfl, (hb03.out.setCell (by simp) _).setCell (by simp) _⟩

set_option maxHeartbeats 1000000 in
theorem newNameOfV {N : Nat} (hN : N ≤ 1000000) {p : P} (hok : p.nok = true) (hs : p.size ≤ 99000) (hs2 : p.size < N) (w : World) (D : Nat → Prop) (x : Value) (hito : ITO N w.heap.size w) (hx : PI w D p x) (hD : ∀ g, D g → g < w.heap.size) :
    Calls Tryz.prog 25 #[.iface (pt p) x] w fun e w' => e = .returned (nameW (cname true (nxt p.uses true 0))) ∧ Below w.heap.size w w' := by
  have hnn := Lib.hid (fun W g n (hW : Below w.heap.size w W) (hg : g < W.heap.size) h0 => newName1 hN hok hs hs2 120 [] W D x g n (hito.up hW) hg h0 (hx.below hW hD) (fun g hg => Nat.lt_of_lt_of_le (hD g hg) hW.size))
  rw [show varB 120 = true from by decide] at hnn
  generalize cname true (nxt p.uses true 0) = nn at *
  clear hito hx hD
  have hsw : Hid (∀ W, Calls Tryz.prog 49 #[.agg #[.int .u8 107, .string ⟨#[]⟩]] W fun e w' => e = .returned (.agg #[.int .u8 120, .string ⟨#[]⟩]) ∧ Below W.heap.size W w') := fun W => swapped_any 107 [] (by decide) W
  go_enter Tryz.func25, Tryz.ntmps25
  go_wp2_with (first
    | (go_at_call 47; refine Calls.mono (resultName_any _) ?_; rintro e w1 ⟨rfl, hb1⟩; have hs1 := hb1.size; simp at hs1)
    | (go_at_call 51; refine Calls.mono (bindsV_any _) ?_; rintro e w2 ⟨rfl, hb2⟩; have hs2' := hb2.size; simp at hs2'; have hbx2 := Lib.hid ((hb2.block w1.heap.size (by simp)).trans (heap_alloc_new w1 _)); obtain ⟨zz, s0, s1, -, -⟩ := two_cells hbx2.out; have hb02 := Lib.hid (below_step (bb_alloc (below_step (bb_alloc (Below.refl _ _) _) (Nat.le_refl _) hb1) _) (Nat.le_refl _) hb2 : Below w.heap.size w w2); have hr2 := Lib.hid ((hb2.block w.heap.size (by simp; omega)).trans ((bb_alloc (Below.refl _ _) _ : Below w1.heap.size w1 (w1.alloc _)).block w.heap.size (by omega) |>.trans ((hb1.block w.heap.size (by simp)).trans (heap_alloc_new w _)))); clear hb1 hb2)
    | (go_at_call 49; refine Calls.mono (hsw.out _) ?_; rintro e w4 ⟨rfl, hb4⟩; have hs4 := hb4.size; clear s0 s1; have hbx4 := Lib.hid ((hb4.block w1.heap.size (by omega)).trans hbx2.out); obtain ⟨zz4, s0, s1, fs0, fs1⟩ := two_cells hbx4.out; have hr4 := Lib.hid ((hb4.block w.heap.size (by omega)).trans hr2.out); have hb04 := Lib.hid (below_step hb02.out (Nat.le_refl _) hb4); clear hb4))
  have hb05 := Lib.hid ((hb04.out.setCell (by simp; omega) _).setCell (by simp; omega) _ : Below w.heap.size w ((w4.setCell ⟨w1.heap.size, 0, none⟩ (.int .u8 120)).setCell ⟨w1.heap.size, 1, none⟩ (.string ⟨#[]⟩)))
  have hr5 := Lib.hid ((same_set w4 w1.heap.size (.int .u8 120) (.string ⟨#[]⟩) w.heap.size (by omega)).trans hr4.out)
  have hz5 : ((w4.setCell ⟨w1.heap.size, 0, none⟩ (.int .u8 120)).setCell ⟨w1.heap.size, 1, none⟩ (.string ⟨#[]⟩)).heap.size = w4.heap.size := by simp
  have hq := hnn.out (((w4.setCell ⟨w1.heap.size, 0, none⟩ (.int .u8 120)).setCell ⟨w1.heap.size, 1, none⟩ (.string ⟨#[]⟩)).alloc (.cells #[.iface (pt p) x] 36)) w4.heap.size 1 (bb_alloc hb05.out _) (by simp) (block_cells (by have h := heap_alloc_new ((w4.setCell ⟨w1.heap.size, 0, none⟩ (.int .u8 120)).setCell ⟨w1.heap.size, 1, none⟩ (.string ⟨#[]⟩)) (.cells #[.iface (pt p) x] 36); rw [hz5] at h; exact h) 0 _ rfl)
  refine Calls.mono hq ?_
  rintro e w3 ⟨rfl, hb3⟩
  have hs3 := hb3.size
  simp at hs3
  obtain ⟨zr, r0, r1, fr0, fr1⟩ := two_cells ((hb3.block w.heap.size (by simp; omega)).trans ((Below.heap_alloc _ _ w.heap.size (by rw [hz5]; omega)).trans hr5.out))
  have hb03 := Lib.hid (below_step (bb_alloc hb05.out _) (Nat.le_refl _) hb3 : Below w.heap.size w w3)
  clear hb3 hz5
  go_wp2_with fail
  refine bodyPost_ret (v := nameW nn) (by simp [results, Tryz.results25, go_sem, r0, r1]) rfl ?_
  exact ⟨rfl, (hb03.out.setCell (by simp) _).setCell (by simp) _⟩

end Go.Proofs.YtaagbnbekfogiaaGreatDoor
