/- spec.l2Binds, spec.l2Uses. -/
import Derived.Test.YtaagbnbekfogiaaGreatDoorFormT
import Derived.Test.YtaagbnbekfogiaaGreatDoorMathU
namespace Go.Proofs.YtaagbnbekfogiaaGreatDoor
set_option linter.unusedVariables false
open Go.RowKit

theorem binds_any (s : Bs) (w : World) : Calls Tryz.prog 76 #[str s] w fun e w' => e = .returned (.bool (isMu s)) ∧ w = w' := by
  go_enter Tryz.func76, Tryz.ntmps76
  go_wp2_with fail
  all_goals
    go_ret
    refine ⟨ret_bool ?_, rfl⟩
    simp_all [isMu, muB, tmuB]

def LU (name : Bs) (p : P) : Prop := ∀ (w : World) (D : Nat → Prop) (a : ByteArray) (q : Option Addr) (n c : Nat), TC w D p.tree a q n c → (∀ g, D g → g < w.heap.size) →
  Calls Tryz.prog 157 #[.agg #[.string a, .slice q n c], str name] w fun e w' => e = .returned (.int .i64 (p.count name : Nat)) ∧ Below w.heap.size w w'

set_option maxRecDepth 100000 in
theorem lu_nm (name s : Bs) : LU name (.nm s) := by
  intro w D a q n c ht hD
  rw [P.tree, TC] at ht
  obtain ⟨hs, rfl, rfl, rfl, rfl⟩ := ht
  have he : s.isEmpty = false := by cases s with
    | nil => exact absurd rfl hs
    | cons => rfl
  have hb : (s == name) = decide (s = name) := by rw [Bool.eq_iff_iff]; simp
  rw [P.count]
  by_cases h : s = name
  · rw [if_pos h]
    rw [decide_eq_true h] at hb
    clear h
    go_enter Tryz.func157, Tryz.ntmps157
    go_wp2_with fail
    refine bodyPost_ret (v := .int .i64 1) (by simp [results, Tryz.results157, go_sem]) rfl ?_
    exact ⟨rfl, (by repeat (with_reducible first | exact hbel | exact Below.refl _ _ | refine Below.drew ?_ | refine Below.drewN ?_ _ | refine Below.alloc ?_ (by first | (simp; done) | (simp; omega) | omega | (have := Below.size hbel; simp; omega) | (have := Below.size hbel; omega)) _ | refine Below.setCell ?_ (by first | (simp; done) | (simp; omega) | omega) _))⟩
  · rw [if_neg h]
    rw [decide_eq_false h] at hb
    clear h
    go_enter Tryz.func157, Tryz.ntmps157
    go_wp2_with fail
    refine bodyPost_ret (v := .int .i64 0) (by simp [results, Tryz.results157, go_sem]) rfl ?_
    exact ⟨rfl, (by repeat (with_reducible first | exact hbel | exact Below.refl _ _ | refine Below.drew ?_ | refine Below.drewN ?_ _ | refine Below.alloc ?_ (by first | (simp; done) | (simp; omega) | omega | (have := Below.size hbel; simp; omega) | (have := Below.size hbel; omega)) _ | refine Below.setCell ?_ (by first | (simp; done) | (simp; omega) | omega) _))⟩

set_option maxRecDepth 100000 in
theorem lu_bd (name s : Bs) (b : P) (H : Hid (LU name b)) : LU name (.bd s b) := by
  intro w D a q n c ht hD
  have hcall := Lib.hid (fun W hW => head_lit ht hD W hW)
  rw [show headOf [T.atom (bhead s), .atom s, b.tree] = bhead s from rfl] at hcall
  have hbind := Lib.hid (fun W => binds_any (bhead s) W)
  rw [bhead_mu] at hbind
  obtain ⟨rfl, hn, g, rfl, hg, hp⟩ := ht.part
  have hgw := hD g hg
  have hn' : n = 3 := hn
  subst hn'
  obtain ⟨a1, p1, n1, c1, x0, x1, t1⟩ := hp 1 (.atom s) rfl
  obtain ⟨a2, p2, n2, c2, y0, y1, t2⟩ := hp 2 b.tree rfl
  rw [TC] at t1
  obtain ⟨hs, rfl, rfl, rfl, rfl⟩ := t1
  have hb : (s == name) = decide (s = name) := by rw [Bool.eq_iff_iff]; simp
  have t2' := Lib.hid t2
  have hD' := Lib.hid hD
  simp only [Nat.one_mul, Nat.reduceMul, Nat.reduceAdd] at x0 x1 y0 y1
  clear hp t2 hD hn hg
  rw [P.count]
  by_cases h : s = name
  · rw [if_pos h]
    rw [decide_eq_true h] at hb
    clear h
    go_enter Tryz.func157, Tryz.ntmps157
    go_wp2_with fail
    refine Calls.mono (hcall.out _ (by repeat (with_reducible first | exact hbel | exact Below.refl _ _ | refine Below.drew ?_ | refine Below.drewN ?_ _ | refine Below.alloc ?_ (by first | (simp; done) | (simp; omega) | omega | (have := Below.size hbel; simp; omega) | (have := Below.size hbel; omega)) _ | refine Below.setCell ?_ (by first | (simp; done) | (simp; omega) | omega) _))) ?_
    rintro e w1 ⟨rfl, hb1⟩
    have hbx := (hb1.block w.heap.size (by simp)).trans (heap_alloc_new w _)
    obtain ⟨z0, r0, r1, -, -⟩ := two_cells hbx
    have hw1 := below_step ((Below.refl _ _).alloc (Nat.le_refl _) _ : Below w.heap.size w (w.alloc _)) (by simp) hb1
    have u0 := (hw1.cell (p := ⟨g, 2, none⟩) hgw).trans x0
    have u1 := (hw1.cell (p := ⟨g, 3, none⟩) hgw).trans x1
    have u2 := (hw1.cell (p := ⟨g, 4, none⟩) hgw).trans y0
    have u3 := (hw1.cell (p := ⟨g, 5, none⟩) hgw).trans y1
    have hgr : g < w1.heap.size := Nat.lt_of_lt_of_le hgw hw1.size
    have hw1' := Lib.hid hw1
    clear hbx hb1 hw1
    go_wp2_with (go_at_call 76; refine Calls.mono (hbind.out _) ?_; rintro e w2 ⟨rfl, rfl⟩)
    refine bodyPost_ret (v := .int .i64 0) (by simp [results, Tryz.results157, go_sem]) rfl ?_
    exact ⟨rfl, hw1'.out⟩
  · rw [if_neg h]
    rw [decide_eq_false h] at hb
    clear h
    go_enter Tryz.func157, Tryz.ntmps157
    go_wp2_with fail
    refine Calls.mono (hcall.out _ (by repeat (with_reducible first | exact hbel | exact Below.refl _ _ | refine Below.drew ?_ | refine Below.drewN ?_ _ | refine Below.alloc ?_ (by first | (simp; done) | (simp; omega) | omega | (have := Below.size hbel; simp; omega) | (have := Below.size hbel; omega)) _ | refine Below.setCell ?_ (by first | (simp; done) | (simp; omega) | omega) _))) ?_
    rintro e w1 ⟨rfl, hb1⟩
    have hbx := (hb1.block w.heap.size (by simp)).trans (heap_alloc_new w _)
    obtain ⟨z0, r0, r1, -, -⟩ := two_cells hbx
    have hw1 := below_step ((Below.refl _ _).alloc (Nat.le_refl _) _ : Below w.heap.size w (w.alloc _)) (by simp) hb1
    have u0 := (hw1.cell (p := ⟨g, 2, none⟩) hgw).trans x0
    have u1 := (hw1.cell (p := ⟨g, 3, none⟩) hgw).trans x1
    have u2 := (hw1.cell (p := ⟨g, 4, none⟩) hgw).trans y0
    have u3 := (hw1.cell (p := ⟨g, 5, none⟩) hgw).trans y1
    have hgr : g < w1.heap.size := Nat.lt_of_lt_of_le hgw hw1.size
    have hw1' := Lib.hid hw1
    clear hbx hb1 hw1
    go_wp2_with (first
      | (go_at_call 76; refine Calls.mono (hbind.out _) ?_; rintro e w2 ⟨rfl, rfl⟩)
      | (go_at_call 157; refine Calls.mono (H.out _ D a2 p2 n2 c2 (t2'.out.below hw1'.out hD'.out) (fun g hg => by have := hD'.out g hg; have := hw1'.out.size; omega)) ?_; rintro e w2 ⟨rfl, hb2⟩))
    go_ret
    exact ⟨rfl, below_step hw1'.out (Nat.le_refl _) hb2⟩

def countL (name : Bs) (l : List P) : Nat := sumL (l.map (P.count name))
theorem countL_take {name : Bs} {l : List P} {j : Nat} {q : P} (h : l[j]? = some q) : countL name (l.take (j + 1)) = countL name (l.take j) + q.count name := by
  unfold countL
  rw [List.map_take, List.map_take]
  exact sum_take (by rw [List.getElem?_map, h]; rfl)
theorem countL_take_le (name : Bs) (l : List P) (j : Nat) : countL name (l.take j) ≤ countL name l := by
  unfold countL
  rw [List.map_take]
  exact sum_take_le _ _
theorem P.count_le (name : Bs) (p : P) : p.count name ≤ p.size := by
  have := p.uses_count name; have := p.uses_len; omega

set_option maxRecDepth 100000 in
theorem lu_form (name : Bs) (p : P) (h : Bs) (ks : List P) (hf : IsForm p h ks) (hm : isMu h = false) (hk : ∀ q ∈ ks, Hid (LU name q)) (hc : countL name ks ≤ 100000) (w : World) (D : Nat → Prop) (a : ByteArray) (q : Option Addr) (n c : Nat)
    (ht : TC w D p.tree a q n c) (hD : ∀ g, D g → g < w.heap.size) :
    Calls Tryz.prog 157 #[.agg #[.string a, .slice q n c], str name] w fun e w' => e = .returned (.int .i64 (countL name ks : Nat)) ∧ Below w.heap.size w w' := by
  rw [hf.tree] at ht
  have hcall := Lib.hid (fun W hW => head_lit ht hD W hW)
  rw [show headOf (T.atom h :: ks.map P.tree) = h from rfl] at hcall
  have hbind := Lib.hid (fun W => binds_any h W)
  rw [hm] at hbind
  have hlen := hf.len
  obtain ⟨rfl, hn, g, rfl, hg, hp⟩ := ht.part
  have hgw := hD g hg
  have hn' : n = ks.length + 1 := by simpa using hn
  subst hn'
  have hp' := Lib.hid hp
  have hk' := Lib.hid hk
  have hD' := Lib.hid hD
  clear hp hk hD hn hg ht
  go_enter Tryz.func157, Tryz.ntmps157
  go_wp2_with fail
  refine Calls.mono (hcall.out _ (by repeat (with_reducible first | exact hbel | exact Below.refl _ _ | refine Below.drew ?_ | refine Below.drewN ?_ _ | refine Below.alloc ?_ (by first | (simp; done) | (simp; omega) | omega | (have := Below.size hbel; simp; omega) | (have := Below.size hbel; omega)) _ | refine Below.setCell ?_ (by first | (simp; done) | (simp; omega) | omega) _))) ?_
  rintro e w1 ⟨rfl, hb1⟩
  have hbx := (hb1.block w.heap.size (by simp)).trans (heap_alloc_new w _)
  obtain ⟨z0, r0, r1, -, -⟩ := two_cells hbx
  have hbx' := Lib.hid hbx
  have hw1 := Lib.hid (below_step ((Below.refl _ _).alloc (Nat.le_refl _) _ : Below w.heap.size w (w.alloc _)) (by simp) hb1)
  clear hbx hb1
  go_wp2_with (go_at_call 76; refine Calls.mono (hbind.out _) ?_; rintro e w2 ⟨rfl, rfl⟩)
  go_loopw [5, 6] (fun v i wr => ∃ j : Nat, j ≤ ks.length ∧ i = .int .i64 ((j : Int) + 1) ∧ v = .int .i64 (countL name (ks.take j) : Nat) ∧ Below w.heap.size w wr ∧ wr.heap[w.heap.size]? = some (.cells #[.string ⟨#[]⟩, .slice (some ⟨g, 0, none⟩) (ks.length + 1) c] 29 (0, 0)))
    (fun _ i _ => ks.length + 1 - (intOf i).toNat)
  case atStart => exact ⟨0, Nat.zero_le _, rfl, rfl, hw1.out, hbx'.out⟩
  case round =>
    clear r0 r1 z0
    obtain ⟨j, hj, rfl, rfl, hbel, hbox⟩ := hrel
    obtain ⟨z0, r0, r1, -, -⟩ := two_cells hbox
    have hbox' := Lib.hid hbox
    have hbel' := Lib.hid hbel
    clear hbox
    by_cases hlt : j < ks.length
    · obtain ⟨q, hq⟩ : ∃ q, ks[j]? = some q := ⟨ks[j], List.getElem?_eq_getElem _⟩
      obtain ⟨a1, p1, n1, c1, x0, x1, t1⟩ := hp'.out (j + 1) q.tree (by simp [hq])
      have y0 := (hbel.cell (p := ⟨g, (j + 1) * 2, none⟩) hgw).trans x0
      have y1 := (hbel.cell (p := ⟨g, (j + 1) * 2 + 1, none⟩) hgw).trans x1
      have hgr : g < wr.heap.size := Nat.lt_of_lt_of_le hgw hbel.size
      have hjlen : (j : Int) + 1 < (ks.length : Int) + 1 := by omega
      have hH := hk'.out q (List.mem_of_getElem? hq)
      have hs1 := Lib.hid (countL_take (name := name) hq)
      have hs2 := countL_take_le name ks (j + 1)
      rw [hs1.out] at hs2
      have t1' := Lib.hid t1
      clear x0 x1 t1 hq hbel
      go_wp2_with (go_at_call 157; refine Calls.mono (hH.out _ D a1 p1 n1 c1 (t1'.out.below hbel'.out hD'.out) (fun g hg => by have := hD'.out g hg; have := hbel'.out.size; omega)) ?_; rintro e w2 ⟨rfl, hb2⟩)
      go_roundw
      case rel => exact ⟨j + 1, by omega, by go_num, by rw [hs1.out]; go_num, below_step hbel'.out (Nat.le_refl _) hb2, (hb2.block _ (by omega)).trans hbox'.out⟩
      case measure => simp [intOf]; omega
    · have e : j = ks.length := by omega
      subst e
      have hsum := Lib.hid (show countL name (ks.take ks.length) = countL name ks from by rw [List.take_of_length_le (by simp)])
      go_wp2_with fail
      go_ret
      exact ⟨ret_int (by rw [hsum.out]), hbel'.out⟩

theorem lu_any (name : Bs) : ∀ {p : P}, p.ok = true → p.size ≤ 1000 → LU name p
  | .nm s, _, _ => lu_nm name s
  | .f1 h p, hk, hs => fun w D a q n c ht hD => by
    have hm := (IsForm.noMu (p := .f1 h p) (h := h) (ks := [p]) ⟨rfl, rfl⟩ hk).1
    rw [P.ok, Bool.and_eq_true] at hk
    rw [P.size] at hs
    have H := lu_any name hk.1 (by omega)
    have hl := p.count_le name
    have e : countL name [p] = (P.f1 h p).count name := by simp [countL, sumL, P.count]
    rw [← e]
    exact lu_form name (.f1 h p) h [p] ⟨rfl, rfl⟩ hm (fun q hq => by simp at hq; subst hq; exact H) (by simp [countL, sumL]; omega) w D a q n c ht hD
  | .f2 h p p', hk, hs => fun w D a q n c ht hD => by
    have hm := (IsForm.noMu (p := .f2 h p p') (h := h) (ks := [p, p']) ⟨rfl, rfl⟩ hk).1
    rw [P.ok, Bool.and_eq_true, Bool.and_eq_true] at hk
    rw [P.size] at hs
    have H := lu_any name hk.1.1 (by omega)
    have H' := lu_any name hk.1.2 (by omega)
    have hl := p.count_le name
    have hl' := p'.count_le name
    have e : countL name [p, p'] = (P.f2 h p p').count name := by simp [countL, sumL, P.count]
    rw [← e]
    exact lu_form name (.f2 h p p') h [p, p'] ⟨rfl, rfl⟩ hm (fun r hr => by simp at hr; rcases hr with rfl | rfl; exact H; exact H') (by simp [countL, sumL]; omega) w D a q n c ht hD
  | .bd s b, hk, hs => by
    rw [P.ok, Bool.and_eq_true, Bool.and_eq_true] at hk
    rw [P.size] at hs
    exact lu_bd name s b (lu_any name hk.1.2 (by omega))

end Go.Proofs.YtaagbnbekfogiaaGreatDoor
