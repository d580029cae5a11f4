/- spec.l2Dual. -/
import Derived.Test.YtaihmfmfaejhiaaWordD
import Derived.Deep.RegionHeld3
namespace Go.Proofs.Ytaihmfmfaejhiaa
set_option linter.unusedVariables false
open Go.RowKit

abbrev F0 (_ : Nat) : Prop := False
/-- The model's dual of a tree. -/
def LDT (p : P) : Prop := ∀ (w : World) (D : Nat → Prop) (a : ByteArray) (q : Option Addr) (n c : Nat), TC w D p.tree a q n c → (∀ g, D g → g < w.heap.size) →
  Calls Try.prog 13 #[.agg #[.string a, .slice q n c]] w (TreeRet F0 p.dual.tree w)

theorem ld_nm (s : Bs) (hs : isName s = true) : LDT (.nm s) := by
  intro w D a q n c ht hD
  rw [P.tree, TC] at ht
  obtain ⟨hne, rfl, rfl, rfl, rfl⟩ := ht
  have he : s.isEmpty = false := by cases s with
    | nil => exact absurd rfl hne
    | cons => rfl
  obtain ⟨c, d, rfl⟩ : ∃ c d, s = c :: d := by cases s with
    | nil => exact absurd rfl hne
    | cons c d => exact ⟨c, d, rfl⟩
  have h4 := (isName_in hs).1
  simp at h4
  have hfl := Lib.hid (fun W => flip_any c d (var_or hs) (by omega) W)
  rw [show (P.nm (c :: d)).dual.tree = .atom (swapC c :: d) from rfl]
  clear hs hne
  go_enter Try.func13, Try.ntmps13
  go_wp2_with fail
  refine Calls.mono (hfl.out _) ?_
  rintro e w1 ⟨rfl, hb1⟩
  obtain ⟨z0, b0, b1, -, -⟩ := two_cells ((hb1.block w.heap.size (by simp; omega)).trans (first_alloc w _ _))
  obtain ⟨z1, r0, r1, f0, f1⟩ := two_cells ((hb1.block (w.heap.size + 1) (by simp)).trans (second_alloc w _ _))
  have hbel' := Lib.hid (below_step (((Below.refl _ _).alloc (Nat.le_refl _) _).alloc (by simp) _ : Below w.heap.size w ((w.alloc _).alloc _)) (by simp) hb1)
  clear hb1
  go_wp2_with fail
  refine bodyPost_ret (v := .agg #[str (swapC c :: d), .slice none 0 0]) (by simp [results, Try.results13, go_sem, r0, r1]) rfl ?_
  have hbel := hbel'.out
  exact ⟨_, _, _, _, rfl, ⟨by simp, rfl, rfl, rfl, rfl⟩, (by repeat (with_reducible first | exact hbel | exact Below.refl _ _ | refine Below.drew ?_ | refine Below.drewN ?_ _ | refine Below.alloc ?_ (by first | (simp; done) | (simp; omega) | omega | (have := Below.size hbel; simp; omega) | (have := Below.size hbel; omega)) _ | refine Below.setCell ?_ (by first | (simp; done) | (simp; omega) | omega) _))⟩

set_option maxRecDepth 100000 in
set_option maxHeartbeats 1000000 in
theorem ld_cut (a b : P) (ha : Hid (LDT a)) (hb : Hid (LDT b)) (w : World) (D : Nat → Prop) (s : ByteArray) (p : Option Addr) (n c : Nat)
    (ht : TC w D (.node [.atom cutB, a.tree, b.tree]) s p n c) (hD : ∀ g, D g → g < w.heap.size) :
    Calls Try.prog 13 #[.agg #[.string s, .slice p n c]] w (TreeRet F0 (.node [.atom cutB, b.dual.tree, a.dual.tree]) w) := by
  obtain ⟨x0, hx0, hcall⟩ := head_node ht hD
  obtain ⟨rfl, hn, g, rfl, hg, hp⟩ := ht.part
  have hn' : n = 3 := hn
  subst hn'
  obtain ⟨a1, p1, n1, c1, y0, y1, t1⟩ := hp 1 a.tree rfl
  obtain ⟨a2, p2, n2, c2, q0, q1, t2⟩ := hp 2 b.tree rfl
  have hgw := hD g hg
  have h42 : (x0.toList == [99, 117, 116]) = true := by rw [hx0]; rfl
  simp only [Nat.one_mul, Nat.reduceMul, Nat.reduceAdd] at y0 y1 q0 q1
  have hcall' := Lib.hid hcall
  have t1' := Lib.hid t1
  have t2' := Lib.hid t2
  have hD' := Lib.hid hD
  clear hcall hp t1 t2 hD hx0 ht hg hn
  go_enter Try.func13, Try.ntmps13
  go_wp2_with fail
  refine (hcall'.out _ (by repeat (with_reducible first | exact hbel | exact Below.refl _ _ | refine Below.drew ?_ | refine Below.drewN ?_ _ | refine Below.alloc ?_ (by first | (simp; done) | (simp; omega) | omega | (have := Below.size hbel; simp; omega) | (have := Below.size hbel; omega)) _ | refine Below.setCell ?_ (by first | (simp; done) | (simp; omega) | omega) _))).mono ?_
  rintro e w0 ⟨rfl, hb0⟩
  have hw0 := Lib.hid (below_step (((Below.refl _ _).alloc (Nat.le_refl _) _).alloc (by simp) _ : Below w.heap.size w ((w.alloc _).alloc _)) (by simp) hb0)
  have hbx := (hb0.block w.heap.size (by simp; omega)).trans (first_alloc w _ _)
  have hrx := (hb0.block (w.heap.size + 1) (by simp)).trans (second_alloc w _ _)
  obtain ⟨z0, b0, b1, -, -⟩ := two_cells hbx
  obtain ⟨z1, r0, r1, f0, f1⟩ := two_cells hrx
  have hS : Hid (∀ W', SB w0 (w.heap.size + 1) W' → W'.cell? ⟨w.heap.size, 1, none⟩ = some (.slice (some ⟨g, 0, none⟩) 3 c) ∧ W'.cell? ⟨g, 2, none⟩ = some (.string a1) ∧ W'.cell? ⟨g, 3, none⟩ = some (.slice p1 n1 c1) ∧
      W'.cell? ⟨g, 4, none⟩ = some (.string a2) ∧ W'.cell? ⟨g, 5, none⟩ = some (.slice p2 n2 c2)) := by
    intro W' h
    have hc : ∀ o, W'.cell? ⟨g, o, none⟩ = w.cell? ⟨g, o, none⟩ := fun o => (h.cell (by omega) (by omega)).trans (hw0.out.cell (p := ⟨g, o, none⟩) hgw)
    exact ⟨(h.cell z0 (by omega)).trans b1, (hc 2).trans y0, (hc 3).trans y1, (hc 4).trans q0, (hc 5).trans q1⟩
  have hA : Hid (∀ W', SB w0 (w.heap.size + 1) W' → Calls Try.prog 13 #[.agg #[.string a1, .slice p1 n1 c1]] W' (TreeRet F0 a.dual.tree W')) := fun W' h =>
    ha.out W' D a1 p1 n1 c1 (TC.keep (fun g hg => (h.block g (by have := hD'.out g hg; omega) (by have := hD'.out g hg; omega)).trans (hw0.out.block g (hD'.out g hg))) (fun _ h => h) _ _ _ _ _ t1'.out) (fun g hg => by have := hD'.out g hg; have := h.size; omega)
  have hB : Hid (∀ W', SB w0 (w.heap.size + 1) W' → Calls Try.prog 13 #[.agg #[.string a2, .slice p2 n2 c2]] W' (TreeRet F0 b.dual.tree W')) := fun W' h =>
    hb.out W' D a2 p2 n2 c2 (TC.keep (fun g hg => (h.block g (by have := hD'.out g hg; omega) (by have := hD'.out g hg; omega)).trans (hw0.out.block g (hD'.out g hg))) (fun _ h => h) _ _ _ _ _ t2'.out) (fun g hg => by have := hD'.out g hg; have := h.size; omega)
  have hR : Hid (∀ W', Below w0.heap.size w0 W' → w.heap.size + 1 < W'.heap.size ∧ W'.cell? ⟨w.heap.size + 1, 0, none⟩ = some (.string ⟨#[]⟩) ∧ W'.cell? ⟨w.heap.size + 1, 1, none⟩ = some (.slice none 0 0) ∧
      W'.frozen? ⟨w.heap.size + 1, 0, none⟩ = false ∧ W'.frozen? ⟨w.heap.size + 1, 1, none⟩ = false) := fun W' h => two_cells ((h.block _ z1).trans hrx)
  have hDw : ∀ g, F0 g → g < w0.heap.size := fun g hg => False.elim hg
  have hDw' := Lib.hid hDw
  clear hb0 hbx hrx hDw
  go_wp2_with fail
  go_region_held3 (fun W' => W'.cell? ⟨w.heap.size, 1, none⟩ = some (.slice (some ⟨g, 0, none⟩) 3 c) ∧ W'.cell? ⟨g, 2, none⟩ = some (.string a1) ∧ W'.cell? ⟨g, 3, none⟩ = some (.slice p1 n1 c1) ∧
      W'.cell? ⟨g, 4, none⟩ = some (.string a2) ∧ W'.cell? ⟨g, 5, none⟩ = some (.slice p2 n2 c2))
    (first | exact hS.out _ (by repeat (with_reducible first | exact sb_refl _ _ | exact hsb | refine sb_drew ?_ | refine sb_alloc ?_ _ | refine sb_set ?_ _ _ | refine sb_step ?_ hb1 | refine sb_step ?_ hb2 | refine sb_step ?_ hb3 | refine sb_step ?_ hb4)))
    (first
      | (go_at_call_of 13 a1; refine Calls.mono (hA.out _ (by repeat (with_reducible first | exact sb_refl _ _ | exact hsb | refine sb_drew ?_ | refine sb_alloc ?_ _ | refine sb_set ?_ _ _ | refine sb_step ?_ hb1 | refine sb_step ?_ hb2 | refine sb_step ?_ hb3 | refine sb_step ?_ hb4))) ?_; rintro e w1 ⟨u1, v1, m1, d1, rfl, tc1, hb1⟩)
      | (go_at_call_of 13 a2; refine Calls.mono (hB.out _ (by repeat (with_reducible first | exact sb_refl _ _ | exact hsb | refine sb_drew ?_ | refine sb_alloc ?_ _ | refine sb_set ?_ _ _ | refine sb_step ?_ hb1 | refine sb_step ?_ hb2 | refine sb_step ?_ hb3 | refine sb_step ?_ hb4))) ?_; rintro e w2 ⟨u2, v2, m2, d2, rfl, tc2, hb2⟩)
      | (go_at_call 24; (first | (refine Calls.mono (list2 [99, 117, 116] (by simp) b.dual.tree a.dual.tree (dn_lt (lo := w0.heap.size) hDw'.out (by repeat (with_reducible first | exact Below.refl _ _ | exact hbb | refine Below.drew ?_ | refine bb_alloc ?_ _ | refine below_step ?_ (Nat.le_refl _) hb1 | refine below_step ?_ (Nat.le_refl _) hb2 | refine below_step ?_ (Nat.le_refl _) hb3 | refine below_step ?_ (Nat.le_refl _) hb4))) (tc2.dn (Below.size (B := w0.heap.size) (by repeat (with_reducible first | exact Below.refl _ _ | exact hbb | refine Below.drew ?_ | refine bb_alloc ?_ _ | refine below_step ?_ (Nat.le_refl _) hb1 | refine below_step ?_ (Nat.le_refl _) hb2 | refine below_step ?_ (Nat.le_refl _) hb3 | refine below_step ?_ (Nat.le_refl _) hb4))) (dn_ltD hDw'.out (by repeat (with_reducible first | exact Below.refl _ _ | exact hbb | refine Below.drew ?_ | refine bb_alloc ?_ _ | refine below_step ?_ (Nat.le_refl _) hb1 | refine below_step ?_ (Nat.le_refl _) hb2 | refine below_step ?_ (Nat.le_refl _) hb3 | refine below_step ?_ (Nat.le_refl _) hb4))) (Below.refl _ _)) (tc1.dn (Below.size (B := w0.heap.size) (by repeat (with_reducible first | exact Below.refl _ _ | exact hbb | refine Below.drew ?_ | refine bb_alloc ?_ _ | refine below_step ?_ (Nat.le_refl _) hb1 | refine below_step ?_ (Nat.le_refl _) hb2 | refine below_step ?_ (Nat.le_refl _) hb3 | refine below_step ?_ (Nat.le_refl _) hb4))) (dn_ltD hDw'.out (by repeat (with_reducible first | exact Below.refl _ _ | exact hbb | refine Below.drew ?_ | refine bb_alloc ?_ _ | refine below_step ?_ (Nat.le_refl _) hb1 | refine below_step ?_ (Nat.le_refl _) hb2 | refine below_step ?_ (Nat.le_refl _) hb3 | refine below_step ?_ (Nat.le_refl _) hb4))) hb2)) ?_) | (refine Calls.mono (list2 [99, 117, 116] (by simp) b.dual.tree a.dual.tree (dn_lt (lo := w0.heap.size) hDw'.out (by repeat (with_reducible first | exact Below.refl _ _ | exact hbb | refine Below.drew ?_ | refine bb_alloc ?_ _ | refine below_step ?_ (Nat.le_refl _) hb1 | refine below_step ?_ (Nat.le_refl _) hb2 | refine below_step ?_ (Nat.le_refl _) hb3 | refine below_step ?_ (Nat.le_refl _) hb4))) (tc2.dn (Below.size (B := w0.heap.size) (by repeat (with_reducible first | exact Below.refl _ _ | exact hbb | refine Below.drew ?_ | refine bb_alloc ?_ _ | refine below_step ?_ (Nat.le_refl _) hb1 | refine below_step ?_ (Nat.le_refl _) hb2 | refine below_step ?_ (Nat.le_refl _) hb3 | refine below_step ?_ (Nat.le_refl _) hb4))) (dn_ltD hDw'.out (by repeat (with_reducible first | exact Below.refl _ _ | exact hbb | refine Below.drew ?_ | refine bb_alloc ?_ _ | refine below_step ?_ (Nat.le_refl _) hb1 | refine below_step ?_ (Nat.le_refl _) hb2 | refine below_step ?_ (Nat.le_refl _) hb3 | refine below_step ?_ (Nat.le_refl _) hb4))) hb1) (tc1.dn (Below.size (B := w0.heap.size) (by repeat (with_reducible first | exact Below.refl _ _ | exact hbb | refine Below.drew ?_ | refine bb_alloc ?_ _ | refine below_step ?_ (Nat.le_refl _) hb1 | refine below_step ?_ (Nat.le_refl _) hb2 | refine below_step ?_ (Nat.le_refl _) hb3 | refine below_step ?_ (Nat.le_refl _) hb4))) (dn_ltD hDw'.out (by repeat (with_reducible first | exact Below.refl _ _ | exact hbb | refine Below.drew ?_ | refine bb_alloc ?_ _ | refine below_step ?_ (Nat.le_refl _) hb1 | refine below_step ?_ (Nat.le_refl _) hb2 | refine below_step ?_ (Nat.le_refl _) hb3 | refine below_step ?_ (Nat.le_refl _) hb4))) (Below.refl _ _))) ?_)); rintro e w3 ⟨u3, v3, m3, d3, rfl, tc3, hb3⟩; obtain ⟨e0, e1, e2, e3, e4⟩ := hR.out w3 (by repeat (with_reducible first | exact Below.refl _ _ | exact hbb | refine Below.drew ?_ | refine bb_alloc ?_ _ | refine below_step ?_ (Nat.le_refl _) hb1 | refine below_step ?_ (Nat.le_refl _) hb2 | refine below_step ?_ (Nat.le_refl _) hb3 | refine below_step ?_ (Nat.le_refl _) hb4))))
  go_wp2_with fail
  refine bodyPost_ret (v := .agg #[.string u3, .slice v3 m3 d3]) (by simp [results, Try.results13, go_sem, e1, e2]) rfl ?_
  have hbel : Below w.heap.size w w3 := below_step hw0.out (Nat.le_refl _) ((by repeat (with_reducible first | exact Below.refl _ _ | exact hbb | refine Below.drew ?_ | refine bb_alloc ?_ _ | refine below_step ?_ (Nat.le_refl _) hb1 | refine below_step ?_ (Nat.le_refl _) hb2 | refine below_step ?_ (Nat.le_refl _) hb3 | refine below_step ?_ (Nat.le_refl _) hb4)) : Below w0.heap.size w0 w3)
  have s1 := hb1.size
  have s2 := hb2.size
  have s3 := hb3.size
  simp at s1 s2 s3
  refine ⟨_, _, _, _, rfl, TC.keep (fun g' hg' => ?_) (fun g' hg' => ?_) _ _ _ _ _ tc3, (by repeat (with_reducible first | exact hbel | exact Below.refl _ _ | refine Below.drew ?_ | refine Below.drewN ?_ _ | refine Below.alloc ?_ (by first | (simp; done) | (simp; omega) | omega | (have := Below.size hbel; simp; omega) | (have := Below.size hbel; omega)) _ | refine Below.setCell ?_ (by first | (simp; done) | (simp; omega) | omega) _))⟩
  · refine same_set _ _ _ _ _ ?_
    rcases hg' with (hg' | hg') | hg'
    · exact False.elim hg'
    · omega
    · simp at hg'; omega
  · rcases hg' with (hg' | hg') | hg'
    · exact .inl hg'
    · exact .inr ⟨by omega, by simp; omega⟩
    · simp at hg'; exact .inr ⟨by omega, by simp; omega⟩


set_option maxRecDepth 100000 in
set_option maxHeartbeats 1000000 in
theorem ld_form (h : Bs) (hh : h ≠ []) (ks : List P) (hks : 1 ≤ ks.length ∧ ks.length ≤ 2) (hcut : (h == [99, 117, 116]) = false) (hw : ∀ W, Calls Try.prog 25 #[str h] W fun e w' => e = .returned (str (dword h)) ∧ Below W.heap.size W w') (hd : dword h ≠ [])
    (hk : ∀ q ∈ ks, Hid (LDT q)) (w : World) (D : Nat → Prop) (a : ByteArray) (q : Option Addr) (n c : Nat)
    (ht : TC w D (.node (.atom h :: ks.map P.tree)) a q n c) (hD : ∀ g, D g → g < w.heap.size) :
    Calls Try.prog 13 #[.agg #[.string a, .slice q n c]] w (TreeRet F0 (.node (.atom (dword h) :: (ks.map P.dual).map P.tree)) w) := by
  have hcall := Lib.hid (fun W hW => head_lit ht hD W hW)
  rw [show headOf (T.atom h :: ks.map P.tree) = h from rfl] at hcall
  obtain ⟨rfl, hn, g, rfl, hg, hp⟩ := ht.part
  have hgw := hD g hg
  have hn' : n = ks.length + 1 := by simpa using hn
  subst hn'
  have hp' := Lib.hid hp
  have hk' := Lib.hid hk
  have hD' := Lib.hid hD
  have hw' := Lib.hid hw
  obtain ⟨i0, hi0, hz0, hz1, hz2⟩ := info_parts infoTree
  generalize hts : (ks.map P.dual).map P.tree = ts
  have hts' := Lib.hid hts
  have htl : ts.length = ks.length := by rw [← hts]; simp
  clear hp hk hD hn hg ht hw hts
  go_enter Try.func13, Try.ntmps13
  go_wp2_with fail
  refine Calls.mono (hcall.out _ (by repeat (with_reducible first | exact hbel | exact Below.refl _ _ | refine Below.drew ?_ | refine Below.drewN ?_ _ | refine Below.alloc ?_ (by first | (simp; done) | (simp; omega) | omega | (have := Below.size hbel; simp; omega) | (have := Below.size hbel; omega)) _ | refine Below.setCell ?_ (by first | (simp; done) | (simp; omega) | omega) _))) ?_
  rintro e w0 ⟨rfl, hb0⟩
  have hw0 := Lib.hid (below_step (((Below.refl _ _).alloc (Nat.le_refl _) _).alloc (by simp) _ : Below w.heap.size w ((w.alloc _).alloc _)) (by simp) hb0)
  have hbx := Lib.hid ((hb0.block w.heap.size (by simp; omega)).trans (first_alloc w _ _))
  have hrx := Lib.hid ((hb0.block (w.heap.size + 1) (by simp)).trans (second_alloc w _ _))
  have hs0 := hb0.size
  simp at hs0
  clear hb0
  go_wp2_with fail
  go_loopw [4, 5] (fun v i wr => ∃ (j : Nat) (A1 : Option Addr) (c1 : Nat) (xs : List Value), j ≤ ks.length ∧ i = .int .i64 ((j : Int) + 1) ∧ v = .slice A1 j c1 ∧
      wr.ownsRow w0.heap.size 25 2 (.slice A1 j c1) j xs ∧ Kids wr (fun g => New w0.heap.size wr g ∧ (Value.slice A1 j c1).ownBlock ≠ some g) (((ks.take j).map P.dual).map P.tree) xs ∧ Below w0.heap.size w0 wr)
    (fun _ i _ => ks.length + 1 - (intOf i).toNat)
  case atStart => exact ⟨0, _, _, [], Nat.zero_le _, rfl, rfl, World.ownsRow_made w0 #[] 0 (Nat.le_refl _) (by unfold maxLen; omega) rfl, rfl, (Below.refl _ _).alloc (Nat.le_refl _) _⟩
  case round =>
    obtain ⟨j, A1, c1, xs, hj, rfl, rfl, own1, kids1, hb2⟩ := hrel
    have hs2 := hb2.size
    have hbox := (hb2.block w.heap.size (by omega)).trans hbx.out
    obtain ⟨z0, r0, r1, -, -⟩ := two_cells hbox
    have hbw := below_step hw0.out (Nat.le_refl _) hb2
    by_cases hlt : j < ks.length
    · obtain ⟨q, hq⟩ : ∃ q, ks[j]? = some q := ⟨ks[j], List.getElem?_eq_getElem _⟩
      obtain ⟨a1, p1, n1, c2, x0, x1, t1⟩ := hp'.out (j + 1) q.tree (by simp [hq])
      have y0 := (hbw.cell (p := ⟨g, (j + 1) * 2, none⟩) hgw).trans x0
      have y1 := (hbw.cell (p := ⟨g, (j + 1) * 2 + 1, none⟩) hgw).trans x1
      have hgr : g < wr.heap.size := Nat.lt_of_lt_of_le hgw hbw.size
      have hjlen : (j : Int) + 1 < (ks.length : Int) + 1 := by omega
      have hH := hk'.out q (List.mem_of_getElem? hq)
      have t1' := Lib.hid t1
      have hq' := Lib.hid hq
      have hb2' := Lib.hid hb2
      have own1' := Lib.hid own1
      have kids1' := Lib.hid kids1
      have hbw' := Lib.hid hbw
      clear x0 x1 t1 hq hbw hb2 own1 kids1 hbox
      go_wp2_with (first
        | (go_at_call 13; refine Calls.mono (hH.out _ D a1 p1 n1 c2 (t1'.out.below hbw'.out hD'.out) (fun g hg => by have := hD'.out g hg; have := hbw'.out.size; omega)) ?_; rintro e w4 ⟨u4, v4, m4, d4, rfl, tc4, hb4⟩)
        | (at_builtin; go_loud (refine wpList_append_lies _ rfl (.tmp 37) (.tmp 44) 23 rfl w0.heap.size 25 i0 _ 2 40 Try.underlying23 hi0 hz0 hz1 hz2 rfl (by decide) _ _ _ rfl ((own_below own1'.out hb4).alloc _) ⟨w4.heap.size, 0, none⟩ 1 1 [.string u4, .slice v4 m4 d4] rfl rfl ?c1 ?c2 (by decide) ?c3 ?c4 ?c5 _ rfl ?_))
        | fail)
      case c1 => exact World.news_of_block (cs := #[.string u4, .slice v4 m4 d4]) (heap_alloc_new _ _)
      case c2 => intro u hu; simp at hu; rcases hu with rfl | rfl <;> rfl
      case c3 => unfold maxLen; omega
      case c4 => omega
      case c5 => have := hb4.size; simp; omega
      intro g2 cap w5 own5 gr5 hat hlt5
      have hs4 := hb4.size
      have tc4' : TC w4 (New wr.heap.size w4) q.dual.tree u4 v4 m4 d4 := TC.keep (fun _ _ => rfl) (fun g hg => by rcases hg with hg | hg; exact False.elim hg; exact hg) _ _ _ _ _ tc4
      have hrow := Lib.hid (kids_step (m := j + 1) (cap := cap) (by omega) own1'.out kids1'.out hb4 tc4' ((Below.refl _ _).alloc (Nat.le_refl _) (.cells #[.string u4, .slice v4 m4 d4] 25)) gr5 (g := g2) (by rcases hat with h | h; exact .inl h; exact .inr (by rw [h]; simp)))
      have hb5 : Hid (Below w0.heap.size w0 w5) := Lib.hid ((bb_alloc (below_step hb2'.out (Nat.le_refl _) hb4) _).grown gr5 (by simp; omega) (fun k hk => (own1'.out.lt k hk).1))
      have hpref := Lib.hid (show (((ks.take (j + 1)).map P.dual).map P.tree) = ((ks.take j).map P.dual).map P.tree ++ [q.dual.tree] from by rw [List.take_add_one, hq'.out, List.map_append, List.map_append]; rfl)
      have own5' := Lib.hid own5
      clear own5 gr5 hat tc4 tc4' hb4
      go_wp2_with fail
      go_roundw
      case rel => exact ⟨j + 1, some ⟨g2, 0, none⟩, cap, xs ++ [.string u4, .slice v4 m4 d4], by omega, by go_num, rfl, own5'.out, by rw [hpref.out]; exact hrow.out, hb5.out⟩
      case measure => simp [intOf]; omega
    · have e : j = ks.length := by omega
      subst e
      rw [List.take_of_length_le (Nat.le_refl _)] at kids1
      have hb2' := Lib.hid hb2
      have own1' := Lib.hid own1
      have kids1' := Lib.hid kids1
      have hbw' := Lib.hid hbw
      clear hbw hb2 own1 kids1 hbox
      rw [hts'.out] at kids1'
      obtain ⟨g2, cap, hv, hown, hlt2⟩ := own1'.out.form (by omega)
      have hA : A1 = some ⟨g2, 0, none⟩ := by injection hv
      subst hA
      have hg2 := (own1'.out.lt g2 rfl).1
      have hrx2 := Lib.hid ((hb2'.out.block (w.heap.size + 1) (by omega)).trans hrx.out)
      clear hv hown
      have htl' := Lib.hid htl
      clear htl
      go_wp2_with fail
      refine Calls.mono (hw'.out _) ?_
      rintro e w5 ⟨rfl, hb5⟩
      have hb5' := Lib.hid hb5
      have hcallL := l1List_any (dword h) hd ts xs g2 c1 w5 (fun g => New w0.heap.size wr g) (Kids.keep (fun g hg => hb5.block g hg.1.2) (fun g hg => hg.1) _ _ kids1'.out)
        (fun j u hu => by
          have h3 := (own_below own1'.out hb5).cells (g := g2) rfl j u hu
          have e : ({ block := g2, off := 0, spot := none } : Addr).add j = ⟨g2, j, none⟩ := by unfold Addr.add; split <;> simp_all
          rw [e] at h3; exact h3)
        (fun g hg => Nat.lt_of_lt_of_le hg.2 hb5.size) (Nat.lt_of_lt_of_le hlt2 hb5.size) (by rw [htl'.out]; omega) (by rw [htl'.out]; omega)
      rw [htl'.out] at hcallL
      have hcallL' := Lib.hid hcallL
      clear hb5 hcallL
      go_wp2_with fail
      refine Calls.mono hcallL'.out ?_
      rintro e w6 ⟨u6, v6, m6, d6, rfl, tc6, hb6⟩
      have hw6 := below_step (below_step hb2'.out (Nat.le_refl _) hb5'.out) (Nat.le_refl _) hb6
      have h65 := hb6.size
      have h5r := hb5'.out.size
      clear r0 r1
      obtain ⟨z1, r0, r1, f0, f1⟩ := two_cells ((hb6.block (w.heap.size + 1) (by omega)).trans ((hb5'.out.block (w.heap.size + 1) (by omega)).trans hrx2.out))
      have hw6' := Lib.hid hw6
      have tc6' := Lib.hid tc6
      clear hb6 hw6 tc6
      go_wp2_with fail
      refine bodyPost_ret (v := .agg #[.string u6, .slice v6 m6 d6]) (by simp [results, Try.results13, go_sem, r0, r1]) rfl ?_
      have hbel : Below w.heap.size w w6 := below_step hw0.out (Nat.le_refl _) hw6'.out
      refine ⟨_, _, _, _, rfl, TC.keep (fun g' hg' => ?_) (fun g' hg' => ?_) _ _ _ _ _ tc6'.out, (by repeat (with_reducible first | exact hbel | exact Below.refl _ _ | refine Below.drew ?_ | refine Below.drewN ?_ _ | refine Below.alloc ?_ (by first | (simp; done) | (simp; omega) | omega | (have := Below.size hbel; simp; omega) | (have := Below.size hbel; omega)) _ | refine Below.setCell ?_ (by first | (simp; done) | (simp; omega) | omega) _))⟩
      · refine same_set _ _ _ _ _ ?_
        rcases hg' with hg' | hg'
        · have := hg'.1; omega
        · have := hg'.1; omega
      · rcases hg' with hg' | hg'
        · have h1 := hg'.1; have h2 := hg'.2; exact .inr ⟨by omega, by simp; omega⟩
        · have h1 := hg'.1; have h2 := hg'.2; exact .inr ⟨by omega, by simp; omega⟩

theorem ld_any : ∀ {p : P}, p.ok = true → LDT p
  | .nm s, hk => by rw [P.ok] at hk; exact ld_nm s hk
  | .f1 h p, hk => fun w D a q n c ht hD => by
    rw [P.ok, Bool.and_eq_true, decide_eq_true_iff] at hk
    have H := ld_any hk.1
    have h1 := dual_hd1 hk.2
    have hcut : (h == [99, 117, 116]) = false := by
      rw [beq_eq_false_iff_ne]; intro e; subst e
      have h2 := hk.2
      rw [show hd1 [99, 117, 116] = none from by decide] at h2; cases h2
    exact ld_form h (hd1_ne hk.2).1 [p] (by simp) hcut (fun W => word_any h (.inl (by rw [hk.2]; simp)) W) (hd1_ne h1.1).1 (fun q hq => by simp at hq; subst hq; exact H) w D a q n c ht hD
  | .f2 h p p', hk => fun w D a q n c ht hD => by
    rw [P.ok, Bool.and_eq_true, Bool.and_eq_true, decide_eq_true_iff] at hk
    have H := ld_any hk.1.1
    have H' := ld_any hk.1.2
    by_cases hc : h = cutB
    · subst hc
      rw [P.dual, if_pos rfl]
      exact ld_cut p p' H H' w D a q n c ht hD
    · rw [P.dual, if_neg hc]
      have h1 := dual_hd2 hk.2 hc
      exact ld_form h (hd2_ne hk.2).1 [p, p'] (by simp) (by rw [beq_eq_false_iff_ne]; exact hc) (fun W => word_any h (.inr (.inl ⟨by rw [hk.2]; simp, hc⟩)) W) (hd2_ne h1.1).1 (fun q hq => by simp at hq; rcases hq with rfl | rfl; exact H; exact H') w D a q n c ht hD
  | .bd s b, hk => fun w D a q n c ht hD => by
    rw [P.ok, Bool.and_eq_true, Bool.and_eq_true] at hk
    have H := ld_any hk.1.2
    have hbh : dword (bhead s) = bhead (swapB s) := by
      have := (swapB_name hk.1.1).2
      unfold bhead
      rw [this]
      cases firstIs varB s <;> decide
    have e : (P.bd s b).dual.tree = .node (.atom (dword (bhead s)) :: ([P.nm s, b].map P.dual).map P.tree) := by
      rw [hbh]; rfl
    rw [e]
    have hcut : (bhead s == [99, 117, 116]) = false := by unfold bhead; split <;> decide
    exact ld_form (bhead s) (bhead_ne s) [.nm s, b] (by simp) hcut (fun W => word_any (bhead s) (.inr (.inr (bhead_mu s))) W) (by rw [hbh]; exact bhead_ne _) (fun q hq => by simp at hq; rcases hq with rfl | rfl; exact ld_nm s hk.1.1; exact H) w D a q n c ht hD

end Go.Proofs.Ytaihmfmfaejhiaa
