/- spec.l2With, spec.l2Free. -/
import Derived.Test.YtaagbnbekfogiaaGreatDoorRowB
import Derived.Test.YtaagbnbekfogiaaGreatDoorSpecU
namespace Go.Proofs.YtaagbnbekfogiaaGreatDoor
set_option linter.unusedVariables false
open Go.RowKit

def LF (p : P) : Prop := ∀ (base bb : Nat) (bound acc : List Bs) (Ab : Option Addr) (cb : Nat) (A : Option Addr) (c : Nat) (w : World) (D : Nat → Prop) (a : ByteArray) (q : Option Addr) (n m : Nat),
  TC w D p.tree a q n m → (∀ g, D g → g < w.heap.size ∧ (Value.slice A acc.length c).ownBlock ≠ some g) →
  w.ownsRow bb 9 1 (.slice Ab bound.length cb) bound.length ((bound.map bs').map Value.string) → (∀ k, (Value.slice Ab bound.length cb).ownBlock = some k → (Value.slice A acc.length c).ownBlock ≠ some k) →
  w.ownsRow base 9 1 (.slice A acc.length c) acc.length ((acc.map bs').map Value.string) → base ≤ w.heap.size → bound.length + p.size ≤ 10000 → acc.length + p.size ≤ 10000 →
  Calls Tryz.prog 44 #[.agg #[.string a, .slice q n m], .slice Ab bound.length cb, .slice A acc.length c] w (FRet base (p.free bound acc) (.slice A acc.length c) w)

set_option maxRecDepth 100000 in
theorem lf_nm (s : Bs) : LF (.nm s) := by
  intro base bb bound acc Ab cb A c w D a q n m ht hD hownb hneb hown hbase hlb hla
  rw [P.tree, TC] at ht
  obtain ⟨hs, rfl, rfl, rfl, rfl⟩ := ht
  obtain ⟨i0, hi0, hz0, hz1, hz2⟩ := info_parts infoStr
  have he : s.isEmpty = false := by cases s with
    | nil => exact absurd rfl hs
    | cons => rfl
  have hB : Hid (∀ W, Below w.heap.size w W → Calls Tryz.prog 75 #[.slice Ab bound.length cb, .string ⟨s.toArray⟩] W fun e w' => e = .returned (.bool (decide (s ∈ bound))) ∧ W = w') := fun W hW => by
    have h := has_any Ab bound.length cb (bound.map bs') ⟨s.toArray⟩ W ((RowS.of_own hownb).below hW) (by omega)
    rw [isIn_bs] at h; exact h
  have hA : Hid (∀ W, Below w.heap.size w W → Calls Tryz.prog 75 #[.slice A acc.length c, .string ⟨s.toArray⟩] W fun e w' => e = .returned (.bool (decide (s ∈ acc))) ∧ W = w') := fun W hW => by
    have h := has_any A acc.length c (acc.map bs') ⟨s.toArray⟩ W ((RowS.of_own hown).below hW) (by omega)
    rw [isIn_bs] at h; exact h
  have hown' := Lib.hid hown
  have hbase' := Lib.hid hbase
  have yes : Hid (∀ W', Below w.heap.size w W' → FRet base acc (.slice A acc.length c) w (.returned (.slice A acc.length c)) W') := fun W' hb =>
    ⟨A, c, rfl, own_below hown hb, below_grown hb _, .inl rfl⟩
  clear hown hbase hD hownb hneb
  rw [P.free]
  cases h1 : decide (s ∈ bound)
  · rw [if_neg (of_decide_eq_false h1)]
    cases h2 : decide (s ∈ acc)
    · rw [addN, if_neg (of_decide_eq_false h2)]
      rw [h1] at hB; rw [h2] at hA
      clear h1 h2
      go_enter Tryz.func44, Tryz.ntmps44
      go_wp2_with fail
      refine Calls.mono (hB.out _ (by repeat (with_reducible first | exact hbel | exact Below.refl _ _ | refine Below.drew ?_ | refine Below.drewN ?_ _ | refine Below.alloc ?_ (by first | (simp; done) | (simp; omega) | omega | (have := Below.size hbel; simp; omega) | (have := Below.size hbel; omega)) _ | refine Below.setCell ?_ (by first | (simp; done) | (simp; omega) | omega) _))) ?_
      rintro e w' ⟨rfl, rfl⟩
      go_wp2_with fail
      refine Calls.mono (hA.out _ (by repeat (with_reducible first | exact hbel | exact Below.refl _ _ | refine Below.drew ?_ | refine Below.drewN ?_ _ | refine Below.alloc ?_ (by first | (simp; done) | (simp; omega) | omega | (have := Below.size hbel; simp; omega) | (have := Below.size hbel; omega)) _ | refine Below.setCell ?_ (by first | (simp; done) | (simp; omega) | omega) _))) ?_
      rintro e w' ⟨rfl, rfl⟩
      go_wp2_with (at_builtin; go_loud (refine wpList_append_lies _ rfl (.tmp 22) (.tmp 25) 69 rfl base 9 i0 _ 1 16 Tryz.underlying69 hi0 hz0 hz1 hz2 rfl (by decide) _ _ _ rfl ((hown'.out.alloc _).alloc _) ⟨w.heap.size + 1, 0, none⟩ 1 1 [.string ⟨s.toArray⟩] rfl rfl ?c1 ?c2 (by decide) ?c3 ?c4 ?c5 _ rfl ?_))
      case c1 => exact World.news_of_block (cs := #[.string ⟨s.toArray⟩]) (second_alloc _ _ _)
      case c2 => intro u hu; simp at hu; rw [hu]; rfl
      case c3 => unfold maxLen; omega
      case c4 => omega
      case c5 => have := hbase'.out; simp; omega
      intro g cap w2 hown2 hgrow hat hlt2
      have hfin : Hid (FRet base (acc ++ [s]) (.slice A acc.length c) w (.returned (.slice (some ⟨g, 0, none⟩) (acc.length + 1) cap)) w2) := by
        have hl : (acc ++ [s]).length = acc.length + 1 := by simp
        refine ⟨some ⟨g, 0, none⟩, cap, by rw [hl], by rw [hl, List.map_append, List.map_append]; simp only [List.map_map] at hown2 ⊢; exact hown2, grown_trans' (grown_trans' (World.grownBy_alloc w _ _) (World.grownBy_alloc _ _ _)) hgrow, ?_⟩
        rcases hat with h | h
        · exact .inl h.symm
        · exact .inr ⟨g, rfl, by rw [h]; omega⟩
      clear hown2 hgrow hat
      go_wp2_with fail
      go_ret
      exact hfin.out
    · rw [addN, if_pos (of_decide_eq_true h2)]
      rw [h1] at hB; rw [h2] at hA
      clear h1 h2
      go_enter Tryz.func44, Tryz.ntmps44
      go_wp2_with fail
      refine Calls.mono (hB.out _ (by repeat (with_reducible first | exact hbel | exact Below.refl _ _ | refine Below.drew ?_ | refine Below.drewN ?_ _ | refine Below.alloc ?_ (by first | (simp; done) | (simp; omega) | omega | (have := Below.size hbel; simp; omega) | (have := Below.size hbel; omega)) _ | refine Below.setCell ?_ (by first | (simp; done) | (simp; omega) | omega) _))) ?_
      rintro e w' ⟨rfl, rfl⟩
      go_wp2_with fail
      refine Calls.mono (hA.out _ (by repeat (with_reducible first | exact hbel | exact Below.refl _ _ | refine Below.drew ?_ | refine Below.drewN ?_ _ | refine Below.alloc ?_ (by first | (simp; done) | (simp; omega) | omega | (have := Below.size hbel; simp; omega) | (have := Below.size hbel; omega)) _ | refine Below.setCell ?_ (by first | (simp; done) | (simp; omega) | omega) _))) ?_
      rintro e w' ⟨rfl, rfl⟩
      go_wp2_with fail
      go_ret
      exact yes.out _ (by repeat (with_reducible first | exact hbel | exact Below.refl _ _ | refine Below.drew ?_ | refine Below.drewN ?_ _ | refine Below.alloc ?_ (by first | (simp; done) | (simp; omega) | omega | (have := Below.size hbel; simp; omega) | (have := Below.size hbel; omega)) _ | refine Below.setCell ?_ (by first | (simp; done) | (simp; omega) | omega) _))
  · rw [if_pos (of_decide_eq_true h1)]
    rw [h1] at hB
    clear h1
    go_enter Tryz.func44, Tryz.ntmps44
    go_wp2_with fail
    refine Calls.mono (hB.out _ (by repeat (with_reducible first | exact hbel | exact Below.refl _ _ | refine Below.drew ?_ | refine Below.drewN ?_ _ | refine Below.alloc ?_ (by first | (simp; done) | (simp; omega) | omega | (have := Below.size hbel; simp; omega) | (have := Below.size hbel; omega)) _ | refine Below.setCell ?_ (by first | (simp; done) | (simp; omega) | omega) _))) ?_
    rintro e w' ⟨rfl, rfl⟩
    go_wp2_with fail
    go_ret
    exact yes.out _ (by repeat (with_reducible first | exact hbel | exact Below.refl _ _ | refine Below.drew ?_ | refine Below.drewN ?_ _ | refine Below.alloc ?_ (by first | (simp; done) | (simp; omega) | omega | (have := Below.size hbel; simp; omega) | (have := Below.size hbel; omega)) _ | refine Below.setCell ?_ (by first | (simp; done) | (simp; omega) | omega) _))

set_option maxRecDepth 100000 in
theorem lf_bd (s : Bs) (b : P) (H : Hid (LF b)) : LF (.bd s b) := by
  intro base bb bound acc Ab cb A c w D a q n m ht hD hownb hneb hown hbase hlb hla
  have hcall := Lib.hid (fun W hW => head_lit ht (fun g hg => (hD g hg).1) W hW)
  rw [show headOf [T.atom (bhead s), .atom s, b.tree] = bhead s from rfl] at hcall
  have hbind := Lib.hid (fun W => binds_any (bhead s) W)
  rw [bhead_mu] at hbind
  obtain ⟨rfl, hn, g, rfl, hg, hp⟩ := ht.part
  have hgw := (hD g hg).1
  have hgne := (hD g hg).2
  have hn' : n = 3 := hn
  subst hn'
  obtain ⟨a1, p1, n1, c1, x0, x1, t1⟩ := hp 1 (.atom s) rfl
  obtain ⟨a2, p2, n2, c2, y0, y1, t2⟩ := hp 2 b.tree rfl
  rw [TC] at t1
  obtain ⟨hs, rfl, rfl, rfl, rfl⟩ := t1
  have t2' := Lib.hid t2
  have hD' := Lib.hid hD
  have hown' := Lib.hid hown
  have hownb' := Lib.hid hownb
  simp only [Nat.one_mul, Nat.reduceMul, Nat.reduceAdd] at x0 x1 y0 y1
  rw [P.size] at hlb hla
  have hw := Lib.hid (fun W (hW : Below w.heap.size w W) => with_any Ab bound.length cb bb (bound.map bs') ⟨s.toArray⟩ W (own_below hownb hW) (by omega))
  clear hp t2 hD hn hg hown hownb hneb
  go_enter Tryz.func44, Tryz.ntmps44
  go_wp2_with fail
  refine Calls.mono (hcall.out _ (by repeat (with_reducible first | exact hbel | exact Below.refl _ _ | refine Below.drew ?_ | refine Below.drewN ?_ _ | refine Below.alloc ?_ (by first | (simp; done) | (simp; omega) | omega | (have := Below.size hbel; simp; omega) | (have := Below.size hbel; omega)) _ | refine Below.setCell ?_ (by first | (simp; done) | (simp; omega) | omega) _))) ?_
  rintro e w1 ⟨rfl, hb1⟩
  have hbx := (hb1.block w.heap.size (by simp)).trans (heap_alloc_new w _)
  obtain ⟨z0, r0, r1, -, -⟩ := two_cells hbx
  have hw1 := below_step ((Below.refl _ _).alloc (Nat.le_refl _) _ : Below w.heap.size w (w.alloc _)) (by simp) hb1
  have u0 := (hw1.cell (p := ⟨g, 2, none⟩) hgw).trans x0
  have u1 := (hw1.cell (p := ⟨g, 3, none⟩) hgw).trans x1
  have u2 := (hw1.cell (p := ⟨g, 4, none⟩) hgw).trans y0
  have u3 := (hw1.cell (p := ⟨g, 5, none⟩) hgw).trans y1
  have hgr : g < w1.heap.size := Nat.lt_of_lt_of_le hgw hw1.size
  have hS : Hid (∀ W' : World, W'.heap[g]? = w1.heap[g]? → W'.heap[w.heap.size]? = w1.heap[w.heap.size]? → (W'.cell? ⟨w.heap.size, 1, none⟩ = some (.slice (some ⟨g, 0, none⟩) 3 m) ∧ W'.cell? ⟨g, 2, none⟩ = some (.string ⟨s.toArray⟩) ∧ W'.cell? ⟨g, 3, none⟩ = some (.slice none 0 0) ∧
      W'.cell? ⟨g, 4, none⟩ = some (.string a2) ∧ W'.cell? ⟨g, 5, none⟩ = some (.slice p2 n2 c2))) := fun W' h1 h2 =>
    ⟨(World.cell?_of_block (a := ⟨w.heap.size, 1, none⟩) h2).trans r1, (World.cell?_of_block (a := ⟨g, 2, none⟩) h1).trans u0, (World.cell?_of_block (a := ⟨g, 3, none⟩) h1).trans u1, (World.cell?_of_block (a := ⟨g, 4, none⟩) h1).trans u2, (World.cell?_of_block (a := ⟨g, 5, none⟩) h1).trans u3⟩
  have hownlt : ∀ k, (Value.slice A acc.length c).ownBlock = some k → k < w.heap.size := fun k hk => (hown'.out.lt k hk).2
  have hw1' := Lib.hid hw1
  have hFree : Hid (∀ (W2 : World) (A2 : Option Addr) (c3 : Nat), Below w1.heap.size w1 W2 → W2.ownsRow w1.heap.size 9 1 (.slice A2 (bound.length + 1) c3) (bound.length + 1) ((bound.map bs' ++ [bs' s]).map Value.string) →
      Calls Tryz.prog 44 #[.agg #[.string a2, .slice p2 n2 c2], .slice A2 (bound.length + 1) c3, .slice A acc.length c] W2 (FRet base (b.free (bound ++ [s]) acc) (.slice A acc.length c) W2)) := fun W2 A2 c3 hW ho => by
    have hWw := below_step hw1 (Nat.le_refl _) hW
    have hl : (bound ++ [s]).length = bound.length + 1 := by simp
    have := H.out base w1.heap.size (bound ++ [s]) acc A2 c3 A c W2 D a2 p2 n2 c2 (t2'.out.below hWw (fun g hg => (hD'.out g hg).1)) (fun g hg => And.intro (Nat.lt_of_lt_of_le (hD'.out g hg).1 hWw.size) (hD'.out g hg).2)
      (by rw [hl, List.map_append]; exact ho) (fun k hk e => by
        rw [hl] at hk
        have h1 := (ho.lt k hk).1
        have h2 := hownlt k e
        have := hw1.size; omega) (own_below hown'.out hWw) (Nat.le_trans hbase hWw.size) (by rw [hl]; omega) (by omega)
    rw [hl] at this
    exact this
  have hWith := Lib.hid (fun W (hW : Below w1.heap.size w1 W) => hw.out W (below_step hw1 (Nat.le_refl _) hW))
  have hKeep3 : Hid (∀ W2 W3 : World, Below w1.heap.size w1 W2 → W2.grownBy W3 (Value.slice A acc.length c).ownBlock → W3.heap[g]? = w1.heap[g]? ∧ W3.heap[w.heap.size]? = w1.heap[w.heap.size]?) := fun W2 W3 hW hg => by
    refine ⟨(hg.block g (Nat.lt_of_lt_of_le hgr hW.size) (fun e => hgne e.symm)).trans (hW.block g hgr), (hg.block w.heap.size (Nat.lt_of_lt_of_le z0 hW.size) (fun e => by have := hownlt _ e.symm; omega)).trans (hW.block w.heap.size z0)⟩
  clear hbx hb1 hw1
  go_wp2_with (go_at_call 76; refine Calls.mono (hbind.out _) ?_; rintro e w2 ⟨rfl, rfl⟩)
  go_region_held3 (fun W' => W'.cell? ⟨w.heap.size, 1, none⟩ = some (.slice (some ⟨g, 0, none⟩) 3 m) ∧ W'.cell? ⟨g, 2, none⟩ = some (.string ⟨s.toArray⟩) ∧ W'.cell? ⟨g, 3, none⟩ = some (.slice none 0 0) ∧
      W'.cell? ⟨g, 4, none⟩ = some (.string a2) ∧ W'.cell? ⟨g, 5, none⟩ = some (.slice p2 n2 c2))
    (first | exact hS.out _ rfl rfl | exact hS.out _ (hb4.block g hgr) (hb4.block w.heap.size z0) | exact hS.out _ (hKeep3.out _ _ hb4 gr5).1 (hKeep3.out _ _ hb4 gr5).2)
    (first
      | (go_at_call 77; refine Calls.mono (hWith.out _ (Below.refl _ _).drew) ?_; rintro e w4 ⟨A4, c4, rfl, own4, hb4'⟩; have hb4 := below_step (Below.refl w1.heap.size w1).drew (by simp) hb4')
      | (go_at_call 44; refine Calls.mono (hFree.out _ A4 c4 hb4 own4) ?_; rintro e w5 ⟨A5, c5, rfl, own5, gr5, mv5⟩))
  go_wp2_with fail
  go_ret
  exact FRet.from (below_step hw1'.out (Nat.le_refl _) hb4) ⟨A5, c5, rfl, own5, gr5, mv5⟩

def freeAll (bound : List Bs) (acc : List Bs) (l : List P) : List Bs := l.foldl (fun a p => p.free bound a) acc
def sizesP (l : List P) : Nat := sumL (l.map P.size)
theorem freeAll_take {bound acc : List Bs} {l : List P} {k : Nat} {q : P} (h : l[k]? = some q) : freeAll bound acc (l.take (k + 1)) = q.free bound (freeAll bound acc (l.take k)) := by
  rw [List.take_add_one, h]; unfold freeAll; rw [List.foldl_append]; rfl
theorem freeAll_len (bound : List Bs) (l : List P) : ∀ acc, (freeAll bound acc l).length ≤ acc.length + sizesP l := by
  induction l with
  | nil => intro acc; simp [freeAll, sizesP, sumL]
  | cons p l ih =>
    intro acc
    have h1 := ih (p.free bound acc)
    have h2 := p.free_len bound acc
    simp only [freeAll, List.foldl_cons, sizesP, sumL, List.map_cons, List.foldr_cons] at *
    omega
theorem sizesP_take {l : List P} {k : Nat} {q : P} (h : l[k]? = some q) : sizesP (l.take k) + q.size ≤ sizesP l := by
  have h1 := sum_take (l := l.map P.size) (k := k) (n := q.size) (by rw [List.getElem?_map, h]; rfl)
  have h2 := sum_take_le (l.map P.size) (k + 1)
  unfold sizesP
  rw [List.map_take]
  omega

theorem lf_form (h : Bs) (hm : isMu h = false) (ks : List P) (hks : 1 ≤ ks.length ∧ ks.length ≤ 2) (H : ∀ q ∈ ks, Hid (LF q)) (base bb : Nat) (bound acc : List Bs) (Ab : Option Addr) (cb : Nat) (A : Option Addr) (c : Nat) (w : World) (D : Nat → Prop) (a : ByteArray) (q : Option Addr) (n m : Nat)
    (ht : TC w D (.node (.atom h :: ks.map P.tree)) a q n m) (hD : ∀ g, D g → g < w.heap.size ∧ (Value.slice A acc.length c).ownBlock ≠ some g)
    (hownb : w.ownsRow bb 9 1 (.slice Ab bound.length cb) bound.length ((bound.map bs').map Value.string)) (hneb : ∀ k, (Value.slice Ab bound.length cb).ownBlock = some k → (Value.slice A acc.length c).ownBlock ≠ some k)
    (hown : w.ownsRow base 9 1 (.slice A acc.length c) acc.length ((acc.map bs').map Value.string)) (hbase : base ≤ w.heap.size) (hlb : bound.length + sizesP ks ≤ 10000) (hla : acc.length + sizesP ks ≤ 10000) :
    Calls Tryz.prog 44 #[.agg #[.string a, .slice q n m], .slice Ab bound.length cb, .slice A acc.length c] w (FRet base (freeAll bound acc ks) (.slice A acc.length c) w) := by
  have hcall := Lib.hid (fun W hW => head_lit ht (fun g hg => (hD g hg).1) W hW)
  rw [show headOf (T.atom h :: ks.map P.tree) = h from rfl] at hcall
  have hbind := Lib.hid (fun W => binds_any h W)
  rw [hm] at hbind
  obtain ⟨rfl, hn, g, rfl, hg, hp⟩ := ht.part
  have hn' : n = ks.length + 1 := by rw [hn]; simp
  subst hn'
  have hgw := hD g hg
  have hown' := Lib.hid hown
  have hownb' := Lib.hid hownb
  have hneb' := Lib.hid hneb
  have hp' := Lib.hid hp
  have hD' := Lib.hid hD
  have hbase' := Lib.hid hbase
  have H' := Lib.hid H
  have hlt' := Lib.hid hown.lt
  clear hown hp hD hbase ht hg hn hownb hneb H
  go_enter Tryz.func44, Tryz.ntmps44
  go_wp2_with fail
  refine Calls.mono (hcall.out _ (by repeat (with_reducible first | exact hbel | exact Below.refl _ _ | refine Below.drew ?_ | refine Below.drewN ?_ _ | refine Below.alloc ?_ (by first | (simp; done) | (simp; omega) | omega | (have := Below.size hbel; simp; omega) | (have := Below.size hbel; omega)) _ | refine Below.setCell ?_ (by first | (simp; done) | (simp; omega) | omega) _))) ?_
  rintro e w1 ⟨rfl, hb1⟩
  have hbx := (hb1.block w.heap.size (by simp)).trans (heap_alloc_new w _)
  obtain ⟨z0, r0, r1, -, -⟩ := two_cells hbx
  have hw1 := below_step ((Below.refl _ _).alloc (Nat.le_refl _) _ : Below w.heap.size w (w.alloc _)) (by simp) hb1
  have hw1' := Lib.hid hw1
  have hbx1 := Lib.hid hbx
  clear hb1 hw1 hbx
  go_wp2_with (go_at_call 76; refine Calls.mono (hbind.out _) ?_; rintro e w2 ⟨rfl, rfl⟩)
  clear r0 r1
  go_loopw [2, 7] (fun lv i wr => ∃ (j : Nat) (A1 : Option Addr) (c1 : Nat), j ≤ ks.length ∧ i = .int .i64 ((j + 1 : Nat) : Int) ∧ lv = .slice A1 (freeAll bound acc (ks.take j)).length c1 ∧
      wr.ownsRow base 9 1 (.slice A1 (freeAll bound acc (ks.take j)).length c1) (freeAll bound acc (ks.take j)).length (((freeAll bound acc (ks.take j)).map bs').map Value.string) ∧
      w.grownBy wr (Value.slice A acc.length c).ownBlock ∧ Moved (.slice A1 (freeAll bound acc (ks.take j)).length c1) (.slice A acc.length c) (w.heap.size + 1) ∧
      wr.heap[w.heap.size]? = some (.cells #[.string ⟨#[]⟩, .slice (some ⟨g, 0, none⟩) (ks.length + 1) m] 29 (0, 0)))
    (fun _ i _ => ks.length + 1 - (intOf i).toNat)
  case atStart => exact ⟨0, A, c, Nat.zero_le _, rfl, rfl, own_below hown'.out hw1'.out, below_grown hw1'.out _, .inl rfl, hbx1.out⟩
  case round =>
    obtain ⟨j, A1, c1, hj, rfl, rfl, own1, gr1, mv1, hbx⟩ := hrel
    obtain ⟨z1, b0, b1, -, -⟩ := two_cells hbx
    have own1' := Lib.hid own1
    have gr1' := Lib.hid gr1
    have mv1' := Lib.hid mv1
    have hbx' := Lib.hid hbx
    clear own1 mv1 hbx
    by_cases hlt : j < ks.length
    · obtain ⟨f, hfj⟩ : ∃ f, ks[j]? = some f := ⟨ks[j], List.getElem?_eq_getElem hlt⟩
      obtain ⟨a1, p1, n1, m1, x0, x1, t1⟩ := hp'.out (j + 1) f.tree (by rw [List.getElem?_cons_succ, List.getElem?_map, hfj]; rfl)
      have keep : ∀ o, wr.cell? ⟨g, o, none⟩ = w.cell? ⟨g, o, none⟩ := fun o => World.cell?_of_block (a := ⟨g, o, none⟩) (gr1.block g hgw.1 (fun e => hgw.2 e.symm))
      have y0 := (keep ((j + 1) * 2)).trans x0
      have y1 := (keep ((j + 1) * 2 + 1)).trans x1
      have hgr : g < wr.heap.size := Nat.lt_of_lt_of_le hgw.1 gr1.size
      have i0 : (0 : Int) ≤ (j : Int) + 1 := by omega
      have i1 : (j : Int) + 1 < (ks.length : Int) + 1 := by omega
      have hcall : Hid (Calls Tryz.prog 44 #[.agg #[.string a1, .slice p1 n1 m1], .slice Ab bound.length cb, .slice A1 (freeAll bound acc (ks.take j)).length c1] wr (FRet base (f.free bound (freeAll bound acc (ks.take j))) (.slice A1 (freeAll bound acc (ks.take j)).length c1) wr)) := by
        have h1 := freeAll_len bound (ks.take j) acc
        have h2 := sizesP_take hfj
        refine (H'.out f (List.mem_of_getElem? hfj)).out base bb bound _ Ab cb A1 c1 wr D a1 p1 n1 m1 ?_ ?_ ?_ ?_ own1'.out (by have := hbase'.out; have := gr1.size; omega) ?_ ?_
        · exact TC.keep (fun k hk => gr1.block k (hD'.out k hk).1 (fun e => (hD'.out k hk).2 e.symm)) (fun _ h => h) _ _ _ _ _ t1
        · intro k hk
          exact ⟨Nat.lt_of_lt_of_le (hD'.out k hk).1 gr1.size, mv1'.out.keepBlock (by have := (hD'.out k hk).1; omega) (hD'.out k hk).2⟩
        · refine hownb'.out.kept gr1 ?_
          cases hob : (Value.slice Ab bound.length cb).ownBlock with
          | none => exact .inl rfl
          | some k => exact .inr (fun e => hneb'.out k hob e.symm)
        · intro k hk
          exact mv1'.out.keepBlock (by have := (hownb'.out.lt k hk).2; omega) (hneb'.out k hk)
        · omega
        · omega
      rw [← freeAll_take hfj] at hcall
      generalize freeAll bound acc (ks.take j) = L at *
      have hcall' := Lib.hid hcall
      clear x0 x1 t1 keep hfj hcall gr1
      go_wp2_with fail
      refine hcall'.out.out.mono ?_
      rintro e w3 ⟨A2, c2, rfl, own2, gr2, mv2⟩
      have own2' := Lib.hid own2
      have gr2' := Lib.hid gr2
      have mv2' := Lib.hid mv2
      clear own2 gr2 mv2
      go_wp2_with fail
      go_roundw
      case rel =>
        refine ⟨j + 1, A2, c2, by omega, by go_num, rfl, own2'.out, ?_, ?_, ?_⟩
        · refine ⟨gr2'.out.os.trans gr1'.out.os, gr2'.out.tape.trans gr1'.out.tape, gr2'.out.output.trans gr1'.out.output, Nat.le_trans gr1'.out.size gr2'.out.size, fun k hk hne => ?_⟩
          rw [gr2'.out.block k (Nat.lt_of_lt_of_le hk gr1'.out.size) (fun e => mv1'.out.keepBlock (by omega) (fun e => hne e.symm) e.symm), gr1'.out.block k hk hne]
        · rcases mv2'.out with h | ⟨q, hq, hle⟩
          · rcases mv1'.out with h' | ⟨q, hq, hle⟩
            · exact .inl (h.trans h')
            · exact .inr ⟨q, h.trans hq, hle⟩
          · exact .inr ⟨q, hq, by have := gr1'.out.size; omega⟩
        · rw [gr2'.out.block _ z1 (fun e => mv1'.out.keepBlock (k := w.heap.size) (by omega) (fun e => by have := hlt'.out _ e; omega) e.symm)]
          exact hbx'.out
      case measure => simp [intOf]; omega
    · have hfin : Hid (FRet base (freeAll bound acc ks) (.slice A acc.length c) w (.returned (.slice A1 (freeAll bound acc (ks.take j)).length c1)) wr) := by
        have e : ks.take j = ks := List.take_of_length_le (by omega)
        have o := own1'.out
        have mv := mv1'.out
        rw [e] at o mv ⊢
        refine ⟨A1, c1, rfl, o, gr1'.out, ?_⟩
        rcases mv with h | ⟨q, hq, hle⟩
        · exact .inl h
        · exact .inr ⟨q, hq, by omega⟩
      have i1 : ¬ ((j : Int) + 1 < (ks.length : Int) + 1) := by omega
      clear gr1
      go_wp2_with fail
      go_ret
      exact hfin.out

theorem lf_any : ∀ {p : P}, p.ok = true → p.size ≤ 1000 → LF p
  | .nm s, _, _ => lf_nm s
  | .f1 h p, hk, hs => fun base bb bound acc Ab cb A c w D a q n m ht hD hob hneb ho hb hlb hla => by
    have hm := (IsForm.noMu (p := .f1 h p) (h := h) (ks := [p]) ⟨rfl, rfl⟩ hk).1
    rw [P.ok, Bool.and_eq_true] at hk
    rw [P.size] at hs hlb hla
    have H := lf_any hk.1 (by omega)
    exact lf_form h hm [p] (by simp) (fun q hq => by simp at hq; subst hq; exact H) base bb bound acc Ab cb A c w D a q n m ht hD hob hneb ho hb (by simp [sizesP, sumL]; omega) (by simp [sizesP, sumL]; omega)
  | .f2 h p p', hk, hs => fun base bb bound acc Ab cb A c w D a q n m ht hD hob hneb ho hb hlb hla => by
    have hm := (IsForm.noMu (p := .f2 h p p') (h := h) (ks := [p, p']) ⟨rfl, rfl⟩ hk).1
    rw [P.ok, Bool.and_eq_true, Bool.and_eq_true] at hk
    rw [P.size] at hs hlb hla
    have H := lf_any hk.1.1 (by omega)
    have H' := lf_any hk.1.2 (by omega)
    exact lf_form h hm [p, p'] (by simp) (fun q hq => by simp at hq; rcases hq with rfl | rfl; exact H; exact H') base bb bound acc Ab cb A c w D a q n m ht hD hob hneb ho hb (by simp [sizesP, sumL]; omega) (by simp [sizesP, sumL]; omega)
  | .bd s b, hk, hs => by
    rw [P.ok, Bool.and_eq_true, Bool.and_eq_true] at hk
    rw [P.size] at hs
    exact lf_bd s b (lf_any hk.1.2 (by omega))

end Go.Proofs.YtaagbnbekfogiaaGreatDoor
