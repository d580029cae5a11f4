/- spec.l9New. -/
import Derived.Test.YtaagbnbekfogiaaGreatDoorNine
import Derived.Test.YtaagbnbekfogiaaGreatDoorRowB
import Derived.Deep.AppendLies
namespace Go.Proofs.YtaagbnbekfogiaaGreatDoor
set_option linter.unusedVariables false
open Go.RowKit
set_option maxRecDepth 100000

theorem own_type {w : World} {base r : Nat} {E E' : TypeId} {size n : Nat} {v : Value} {xs : List Value} {cs : Array Value} {fr : Nat × Nat} (h : w.ownsRow base E size v n xs) (hr : w.heap[r]? = some (.cells cs E' fr)) (hE : E ≠ E') : ∀ k, v.ownBlock = some k → k ≠ r := by
  intro k hk e
  subst e
  obtain ⟨_, ⟨rfl, _⟩ | ⟨g, cap, cur, rfl, _, hb, _⟩⟩ := h
  · cases hk
  · have hg : g = k := by simpa [Value.ownBlock] using hk
    subst hg
    rw [hr] at hb
    injection hb with hb
    injection hb with _ h2 _
    exact hE h2.symm
/-- What stands in the first cell of block r. -/
def fld (w : World) (r : Nat) : Value := (w.cell? ⟨r, 0, none⟩).getD .nilIface
theorem fld_eq {w : World} {r : Nat} {x : Value} (h : w.cell? ⟨r, 0, none⟩ = some x) : fld w r = x := by simp [fld, h]
theorem fld_ok {w : World} {r : Nat} {x : Value} (h : w.cell? ⟨r, 0, none⟩ = some x) : w.cell? ⟨r, 0, none⟩ = some (fld w r) := by rw [fld_eq h, h]
theorem set_first {w : World} {r : Nat} {x y z u : Value} {E : TypeId} (h : w.heap[r]? = some (.cells #[x, y, z] E (0, 0))) : (w.setCell ⟨r, 0, none⟩ u).heap[r]? = some (.cells #[u, y, z] E (0, 0)) := by
  simp [World.setCell, Array.getElem?_modify, h]
theorem flat_take {ps : List P} {j : Nat} {p : P} (h : ps[j]? = some p) : (ps.take (j + 1)).flatMap P.uses = (ps.take j).flatMap P.uses ++ p.uses := by
  rw [List.take_add_one, h, List.flatMap_append]; simp

set_option maxHeartbeats 2000000 in
theorem new_any (v : Bool) (ps : List P) (hps : ∀ p ∈ ps, p.hok = true ∧ p.size ≤ 1000) (hl1 : 1 ≤ ps.length) (hl2 : ps.length ≤ 2) (W : World) (g cap : Nat) (xs : List Value) (hk : Kids W (fun g => g < W.heap.size) (ps.map P.tree) xs)
    (hcells : ∀ (j : Nat) (u : Value), xs[j]? = some u → W.cell? ⟨g, j, none⟩ = some u) (hg : g < W.heap.size) :
    Calls Tryz.prog 21 #[.bool v, .slice (some ⟨g, 0, none⟩) ps.length cap] W fun e w' => e = .returned (.agg #[.string (bs' (newOf v ps)), .slice none 0 0]) ∧ Below W.heap.size W w' := by
  have hW1 : ∀ w1, w1 = ((W.alloc (.cells #[.string ⟨#[]⟩, .slice none 0 0] 29)).alloc (.cells #[] 9)).alloc (.cells #[.slice (some ⟨W.heap.size + 1, 0, none⟩) 0 0, .int .i64 0, .int .i64 0] 71) →
      Below W.heap.size W w1 ∧ w1.heap.size = W.heap.size + 3 ∧ w1.ownsRow W.heap.size 9 1 (.slice (some ⟨W.heap.size + 1, 0, none⟩) 0 0) 0 [] ∧ w1.heap[W.heap.size + 2]? = some (.cells #[.slice (some ⟨W.heap.size + 1, 0, none⟩) 0 0, .int .i64 0, .int .i64 0] 71 (0, 0)) ∧
      w1.heap[W.heap.size]? = some (.cells #[.string ⟨#[]⟩, .slice none 0 0] 29 (0, 0)) := by
    intro w1 hw
    subst hw
    refine ⟨bb_alloc (bb_alloc (bb_alloc (Below.refl _ _) _) _) _, by simp, ?_, ?_, ?_⟩
    · have h := (own_empty (W.alloc (.cells #[.string ⟨#[]⟩, .slice none 0 0] 29)) W.heap.size (by simp) 9).alloc (.cells #[.slice (some ⟨W.heap.size + 1, 0, none⟩) 0 0, .int .i64 0, .int .i64 0] 71)
      simpa using h
    · have h := heap_alloc_new ((W.alloc (.cells #[.string ⟨#[]⟩, .slice none 0 0] 29)).alloc (.cells #[] 9)) (.cells #[.slice (some ⟨W.heap.size + 1, 0, none⟩) 0 0, .int .i64 0, .int .i64 0] 71)
      simpa using h
    · rw [Below.heap_alloc _ _ _ (by simp; omega)]; exact first_alloc W _ _
  obtain ⟨hb1, hs1, own1, hn1, hr1⟩ := hW1 _ rfl
  obtain ⟨i0, hi0, hz0, hz1, hz2⟩ := info_parts infoStr
  have hk' := Lib.hid hk
  have hc' := Lib.hid hcells
  have hps' := Lib.hid hps
  have hb1' := Lib.hid hb1
  have own1' := Lib.hid own1
  have hn1' := Lib.hid hn1
  have hr1' := Lib.hid hr1
  have hgl : Hid (newOf v ps = cname v (nxt (ps.flatMap P.uses) v 0)) := rfl
  generalize newOf v ps = nn at *
  clear hk hcells hps hW1 hb1 own1 hn1 hr1
  go_enter Tryz.func21, Tryz.ntmps21
  go_wp2_with fail
  rw [show W.heap.size + 1 + 1 = W.heap.size + 2 from rfl]
  generalize ((W.alloc (.cells #[.string ⟨#[]⟩, .slice none 0 0] 29)).alloc (.cells #[] 9)).alloc (.cells #[.slice (some ⟨W.heap.size + 1, 0, none⟩) 0 0, .int .i64 0, .int .i64 0] 71) = w1 at *
  go_loopw [6] (fun i wr => ∃ (j : Nat) (A : Option Addr) (c : Nat) (L : List Bs), j ≤ ps.length ∧ i = .int .i64 j ∧ (∀ s, s ∈ L ↔ s ∈ (ps.take j).flatMap P.uses) ∧ L.length ≤ 1000 * j ∧
      wr.ownsRow W.heap.size 9 1 (.slice A L.length c) L.length ((L.map bs').map Value.string) ∧ wr.heap[W.heap.size + 2]? = some (.cells #[.slice A L.length c, .int .i64 0, .int .i64 0] 71 (0, 0)) ∧
      Below W.heap.size W wr ∧ W.heap.size + 3 ≤ wr.heap.size ∧ wr.heap[W.heap.size]? = some (.cells #[.string ⟨#[]⟩, .slice none 0 0] 29 (0, 0)))
    (fun i _ => ps.length - (intOf i).toNat)
  case atStart => exact ⟨0, _, _, [], Nat.zero_le _, rfl, fun s => by simp, by simp, own1'.out, hn1'.out, hb1'.out, by omega, hr1'.out⟩
  case round =>
    obtain ⟨j, A, c, L, hj, rfl, hmem, hlen, own, hn, hbw, hsz, hr⟩ := hrel
    by_cases hlt : j < ps.length
    · obtain ⟨p, hp⟩ : ∃ p, ps[j]? = some p := ⟨ps[j], List.getElem?_eq_getElem _⟩
      obtain ⟨hh, hs⟩ := hps'.out p (List.mem_of_getElem? hp)
      obtain ⟨a1, p1, n1, m1, x0, x1, t1⟩ := Kids.at_ (i := j) (t := p.tree) hk'.out (by simp [hp])
      have y0 := (hbw.cell (p := ⟨g, j * 2, none⟩) hg).trans (hc'.out _ _ x0)
      have y1 := (hbw.cell (p := ⟨g, j * 2 + 1, none⟩) hg).trans (hc'.out _ _ x1)
      have t1r := t1.below hbw (fun g hg => hg)
      have hjl : (j : Int) < (ps.length : Int) := by omega
      have hj0 : (0 : Int) ≤ (j : Int) := by omega
      have hul := p.uses_len
      have hfl := foldl_len p.uses []
      have hFl : (p.free [] []).length ≤ 1000 := by rw [P.free_top]; simp at hfl; omega
      have hFm : Hid (∀ s, s ∈ p.free [] [] ↔ s ∈ p.uses) := fun s => by rw [P.free_top, foldl_mem]; simp
      have hE1 : Hid (((wr.drew.alloc (.cells #[] 9)).alloc (.cells #[] 9)).ownsRow wr.heap.size 9 1 (.slice (some ⟨wr.heap.size, 0, none⟩) 0 0) 0 []) := (own_empty wr.drew wr.heap.size (Nat.le_refl _) 9).alloc (.cells #[] 9)
      have hE2 : Hid (((wr.drew.alloc (.cells #[] 9)).alloc (.cells #[] 9)).ownsRow wr.heap.size 9 1 (.slice (some ⟨wr.heap.size + 1, 0, none⟩) 0 0) 0 []) := by
        have h := own_empty (wr.drew.alloc (.cells #[] 9)) wr.heap.size (by simp) 9
        have e : (wr.drew.alloc (.cells #[] 9)).heap.size = wr.heap.size + 1 := by simp
        rw [e] at h
        exact h
      have hFree : Hid (∀ (w2 : World) (e1 e2 : Nat), Below wr.heap.size wr w2 → e1 ≠ e2 → w2.ownsRow wr.heap.size 9 1 (.slice (some ⟨e1, 0, none⟩) 0 0) 0 [] → w2.ownsRow wr.heap.size 9 1 (.slice (some ⟨e2, 0, none⟩) 0 0) 0 [] →
          Calls Tryz.prog 44 #[.agg #[.string a1, .slice p1 n1 m1], .slice (some ⟨e1, 0, none⟩) 0 0, .slice (some ⟨e2, 0, none⟩) 0 0] w2 (fun e w' => ∃ A c, e = .returned (.slice A (p.free [] []).length c) ∧ w'.ownsRow wr.heap.size 9 1 (.slice A (p.free [] []).length c) (p.free [] []).length (((p.free [] []).map bs').map Value.string) ∧ Below wr.heap.size wr w')) := fun w2 e1 e2 hb he o2 o3 => by
        have h2 := (o2.lt e1 rfl).1
        have h3 := (o3.lt e2 rfl).1
        have h2' := (o2.lt e1 rfl).2
        refine Calls.mono (lf_hok hh hs wr.heap.size wr.heap.size [] [] (some ⟨e1, 0, none⟩) 0 (some ⟨e2, 0, none⟩) 0 w2 _ a1 p1 n1 m1 (t1r.below hb (fun g hg => Nat.lt_of_lt_of_le hg hbw.size)) (fun g hg => ⟨by have h1 : g < W.heap.size := hg; have := hb.size; omega, fun e => by have h1 : g < W.heap.size := hg; simp [Value.ownBlock] at e; omega⟩) o2
          (fun k hk e => by simp [Value.ownBlock] at hk e; omega) o3 hb.size (by simp; omega) (by simp; omega)) ?_
        rintro e w' ⟨A, c, rfl, own, gr, -⟩
        exact ⟨A, c, rfl, own, hb.grown gr hb.size (fun k hk => by simp [Value.ownBlock] at hk; omega)⟩
      have hownlt := own.lt
      have hgwr : g < wr.heap.size := Nat.lt_of_lt_of_le hg hbw.size
      have hS : Hid (∀ w2 : World, Below wr.heap.size wr w2 → w2.cell? ⟨g, j * 2, none⟩ = some (.string a1) ∧ w2.cell? ⟨g, j * 2 + 1, none⟩ = some (.slice p1 n1 m1) ∧ w2.cell? ⟨W.heap.size + 2, 0, none⟩ = some (fld w2 (W.heap.size + 2))) := fun w2 h2 => by
        have hn2 := (h2.block (W.heap.size + 2) (by omega)).trans hn
        exact ⟨(h2.cell (p := ⟨g, j * 2, none⟩) hgwr).trans y0, (h2.cell (p := ⟨g, j * 2 + 1, none⟩) hgwr).trans y1, fld_ok (x := .slice A L.length c) (by simp only [World.cell?, hn2]; rfl)⟩
      have hown := Lib.hid own
      have hbw' := Lib.hid hbw
      have hn' := Lib.hid hn
      have hr' := Lib.hid hr
      have hmem' := Lib.hid hmem
      have hp' := Lib.hid hp
      clear x0 x1 t1 t1r own hbw hn hr hmem hp hfl hul y0 y1
      generalize p.free [] [] = F at *
      have hr2 : Hid (∀ w2 : World, Below wr.heap.size wr w2 → w2.ownsRow W.heap.size 9 1 (.slice A L.length c) L.length ((L.map bs').map Value.string)) := fun w2 h2 => own_below hown.out h2
      have hN6b : Hid (∀ w5 w6 : World, Below wr.heap.size wr w5 → w5.grownBy w6 (Value.slice A L.length c).ownBlock → w6.heap[W.heap.size + 2]? = some (.cells #[.slice A L.length c, .int .i64 0, .int .i64 0] 71 (0, 0))) := fun w5 w6 h5 h6 => by
        have hne : (Value.slice A L.length c).ownBlock ≠ some (W.heap.size + 2) := fun e => own_type hown.out hn'.out (by decide) _ e rfl
        exact (h6.block (W.heap.size + 2) (Nat.lt_of_lt_of_le (by omega) h5.size) (fun e => hne e.symm)).trans ((h5.block (W.heap.size + 2) (by omega)).trans hn'.out)
      have hN6 : Hid (∀ w5 w6 : World, Below wr.heap.size wr w5 → w5.grownBy w6 (Value.slice A L.length c).ownBlock → w6.cell? ⟨W.heap.size + 2, 0, none⟩ = some (.slice A L.length c) ∧ w6.frozen? ⟨W.heap.size + 2, 0, none⟩ = false) := fun w5 w6 h5 h6 => by
        have hne : (Value.slice A L.length c).ownBlock ≠ some (W.heap.size + 2) := fun e => own_type hown.out hn'.out (by decide) _ e rfl
        have hn6 := (h6.block (W.heap.size + 2) (Nat.lt_of_lt_of_le (by omega) h5.size) (fun e => hne e.symm)).trans ((h5.block (W.heap.size + 2) (by omega)).trans hn'.out)
        exact ⟨by simp only [World.cell?, hn6]; rfl, by simp only [World.frozen?, hn6]; rfl⟩
      have hfv : Hid (fld wr.drew (W.heap.size + 2) = .slice A L.length c) := fld_eq (by have hn2 : wr.drew.heap[W.heap.size + 2]? = _ := hn'.out; simp only [World.cell?, hn2]; rfl)
      have hS6 : Hid (∀ w5 w6 : World, Below wr.heap.size wr w5 → w5.grownBy w6 (Value.slice A L.length c).ownBlock → w6.cell? ⟨g, j * 2, none⟩ = some (.string a1) ∧ w6.cell? ⟨g, j * 2 + 1, none⟩ = some (.slice p1 n1 m1) ∧ w6.cell? ⟨W.heap.size + 2, 0, none⟩ = some (fld w6 (W.heap.size + 2))) := fun w5 w6 h5 h6 => by
        obtain ⟨e1, e2, -⟩ := hS.out w5 h5
        have hgb := h6.block g (Nat.lt_of_lt_of_le hgwr h5.size) (fun e => by have := (hownlt g e.symm).1; omega)
        exact ⟨(World.cell?_of_block (a := ⟨g, j * 2, none⟩) hgb).trans e1, (World.cell?_of_block (a := ⟨g, j * 2 + 1, none⟩) hgb).trans e2, fld_ok (hN6.out w5 w6 h5 h6).1⟩
      have hS7 : Hid (∀ (w5 w6 : World) (u : Value), Below wr.heap.size wr w5 → w5.grownBy w6 (Value.slice A L.length c).ownBlock → (w6.setCell ⟨W.heap.size + 2, 0, none⟩ u).cell? ⟨g, j * 2, none⟩ = some (.string a1) ∧ (w6.setCell ⟨W.heap.size + 2, 0, none⟩ u).cell? ⟨g, j * 2 + 1, none⟩ = some (.slice p1 n1 m1) ∧ (w6.setCell ⟨W.heap.size + 2, 0, none⟩ u).cell? ⟨W.heap.size + 2, 0, none⟩ = some (fld (w6.setCell ⟨W.heap.size + 2, 0, none⟩ u) (W.heap.size + 2))) := fun w5 w6 u h5 h6 => by
        obtain ⟨e1, e2, -⟩ := hS6.out w5 w6 h5 h6
        have hgb : (w6.setCell ⟨W.heap.size + 2, 0, none⟩ u).heap[g]? = w6.heap[g]? := Below.heap_setCell _ _ _ _ (by show g ≠ W.heap.size + 2; omega)
        have hn7 := set_first (u := u) (hN6b.out w5 w6 h5 h6)
        exact ⟨(World.cell?_of_block (a := ⟨g, j * 2, none⟩) hgb).trans e1, (World.cell?_of_block (a := ⟨g, j * 2 + 1, none⟩) hgb).trans e2, fld_ok (x := u) (by simp only [World.cell?, hn7]; rfl)⟩
      have hb0 : Hid (Below wr.heap.size wr ((wr.drew.alloc (.cells #[] 9)).alloc (.cells #[] 9))) := bb_alloc (bb_alloc (Below.refl _ _).drew _) _
      go_wp2_with fail
      have y0 := (hS.out wr (Below.refl _ _)).1
      have y1 := (hS.out wr (Below.refl _ _)).2.1
      have y2 : wr.cell? ⟨W.heap.size + 2, 0, none⟩ = some (.slice A L.length c) := (hN6.out wr wr (Below.refl _ _) (below_grown (Below.refl _ _) _)).1
      obtain ⟨ya0, ya1, -⟩ := hS.out (wr.alloc (.cells #[] 9)) (bb_alloc (Below.refl _ _) _)
      obtain ⟨yb0, yb1, -⟩ := hS.out ((wr.alloc (.cells #[] 9)).alloc (.cells #[] 9)) (bb_alloc (bb_alloc (Below.refl _ _) _) _)
      have ya2 : (wr.alloc (.cells #[] 9)).cell? ⟨W.heap.size + 2, 0, none⟩ = some (.slice A L.length c) := (hN6.out _ _ (bb_alloc (Below.refl _ _) _) (below_grown (Below.refl _ _) _)).1
      have yb2 : ((wr.alloc (.cells #[] 9)).alloc (.cells #[] 9)).cell? ⟨W.heap.size + 2, 0, none⟩ = some (.slice A L.length c) := (hN6.out _ _ (bb_alloc (bb_alloc (Below.refl _ _) _) _) (below_grown (Below.refl _ _) _)).1
      go_region_law (first
          | (go_simp; go_at_call 44; refine Calls.mono (hFree.out _ _ _ hb0.out (by omega) (by first | exact hE1.out | exact hE2.out) (by first | exact hE1.out | exact hE2.out)) ?_; rintro e w5 ⟨A5, c5, rfl, own5, hb5⟩; obtain ⟨q3, -⟩ := hN6.out _ _ hb5 (below_grown (Below.refl _ _) _))
          | (refine step_append_row (by rfl) _ _ _ (by rfl) _ 9 i0 _ 1 16 Tryz.underlying69 hi0 hz0 hz1 hz2 rfl (by decide) (.slice A L.length c) L.length _ (by rfl) (hr2.out _ hb5) wr.heap.size (.slice A5 F.length c5) F.length _ (by rfl) own5 (fun u hu => by rw [List.mem_map] at hu; obtain ⟨x, -, rfl⟩ := hu; rfl) (by unfold maxLen; omega) (by omega) (by have := hb5.size; omega) ?_; intro A6 c6 w6 own6 gr6; obtain ⟨q2, qf⟩ := hN6.out _ _ hb5 gr6))
      all_goals go_wp2_with fail
      all_goals
        have hl : (L ++ F).length = L.length + F.length := List.length_append
        have hn6 := hN6b.out _ _ hb5 gr6
        have hn7 := set_first (u := .slice A6 (L.length + F.length) c6) hn6
        have hne6 := own_type own6 hn6 (by decide)
        have hneA := own_type hown.out hr'.out (by decide)
        have s5 := hb5.size
        have s6 := gr6.size
        have hbw6 : Below W.heap.size W w6 := (hbw'.out.trans (hb5.mono (by omega))).grown gr6 (by omega) (fun k hk => (hownlt k hk).1)
        refine ⟨⟨j + 1, A6, c6, L ++ F, by omega, by go_num, fun s => ?_, ?_, ?_, ?_, ?_, ?_, ?_⟩, ?_⟩
        · rw [flat_take hp'.out, List.mem_append, List.mem_append, hmem'.out, hFm.out]
        · omega
        · rw [hl, List.map_append, List.map_append]
          exact own_same own6 (fun k hk => Below.heap_setCell _ _ _ _ (hne6 k hk))
        · rw [hl]; exact hn7
        · exact hbw6.setCell (by simp) _
        · simp [World.setCell]; omega
        · refine (Below.heap_setCell _ _ _ _ (by simp)).trans ((gr6.block W.heap.size (by omega) (fun e => hneA _ e.symm rfl)).trans ((hb5.block W.heap.size (by omega)).trans hr'.out))
        · simp [intOf]; omega
    · have hjn : j = ps.length := by omega
      subst hjn
      rw [List.take_of_length_le (Nat.le_refl _)] at hmem
      have hnx : nxt L v 0 = nxt (ps.flatMap P.uses) v 0 := nxt_same hmem v 0
      have hz := nxt_zero L v
      have hNM : NM wr (W.heap.size + 2) A L.length c L ⟨0, 0⟩ := ⟨hn, RowS.of_own own, fun _ a ha => by
        subst ha
        exact own_type own hn (by decide) _ rfl⟩
      have e0 : (⟨0, 0⟩ : St).get v = 0 := by cases v <;> rfl
      have hfr := Lib.hid (fresh_any v (W.heap.size + 2) A L.length c L ⟨0, 0⟩ wr hNM (by omega) (by rw [e0]; omega))
      rw [e0, hnx, ← hgl.out] at hfr
      have hr' := Lib.hid hr
      have hbw' := Lib.hid hbw
      have hjl : ¬ (ps.length : Int) < (ps.length : Int) := by omega
      clear hmem hn own hr hbw hNM hz hnx
      go_wp2_with fail
      refine Calls.mono hfr.out ?_
      rintro e w5 ⟨rfl, -, gr5⟩
      have s5 := gr5.size
      obtain ⟨z1, r0, r1, f0, f1⟩ := two_cells ((gr5.block W.heap.size (by omega) (by intro e; injection e with e; omega)).trans hr'.out)
      have hb5 : Hid (Below W.heap.size W w5) := hbw'.out.grown gr5 (by omega) (fun k hk => by injection hk with hk; omega)
      clear gr5
      go_wp2_with fail
      refine bodyPost_ret (v := .agg #[.string (bs' nn), .slice none 0 0]) (by simp [results, Tryz.results21, go_sem, r0, r1]) rfl ?_
      have hbel := hb5.out
      exact ⟨rfl, (by repeat (with_reducible first | exact hbel | exact Below.refl _ _ | refine Below.drew ?_ | refine Below.drewN ?_ _ | refine Below.alloc ?_ (by first | (simp; done) | (simp; omega) | omega | (have := Below.size hbel; simp; omega) | (have := Below.size hbel; omega)) _ | refine Below.setCell ?_ (by first | (simp; done) | (simp; omega) | omega) _))⟩

end Go.Proofs.YtaagbnbekfogiaaGreatDoor
