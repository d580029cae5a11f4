/- Renaming of binders and of forms; of all programs. -/
import Derived.Test.YtaagbnbekfogiaaGreatDoorRen1
namespace Go.Proofs.YtaagbnbekfogiaaGreatDoor
set_option linter.unusedVariables false
open Go.RowKit Go.Maps

set_option maxRecDepth 100000 in
theorem renp_bd (N B : Nat) (hN : N ≤ 1000000) (sub : Option (Bs × P)) (s : Bs) (b : P) (H : Hid (RENP N B sub b)) : RENP N B sub (.bd s b) := by
  intro r bf bc L st a sc sv w D E x hito hB hBw hrn hL hx hD hsc hE hne hst ha
  obtain ⟨c, d, y, rfl, rfl, hy⟩ := hx
  obtain ⟨qv, rfl⟩ := hsc.ptr
  show Calls _ 197 _ _ _
  have hab : a + 1 + (b.ren L (putAt L sub) ((c :: d, cname (varB c) (nxt L (varB c) (st.get (varB c)))) :: sc) (st.put (varB c) (nxt L (varB c) (st.get (varB c)) + 1))).1.binders + L.length < N := by
    have : ((P.bd (c :: d) b).ren L (putAt L sub) sc st).1.binders = 1 + (b.ren L (putAt L sub) ((c :: d, cname (varB c) (nxt L (varB c) (st.get (varB c)))) :: sc) (st.put (varB c) (nxt L (varB c) (st.get (varB c)) + 1))).1.binders := rfl
    omega
  clear ha
  have hnext := Lib.hid (fun W (hi : ITO N B W) (hb : B ≤ W.heap.size) hW => next_any r bf bc L st a c d W hi hB hb hN hW hL hst (by omega))
  have hito' := Lib.hid hito
  clear hito
  have hrn' := Lib.hid hrn
  have hsc' := Lib.hid hsc
  have hE' := Lib.hid hE
  have hD' := Lib.hid hD
  have hy' := Lib.hid hy
  have mb := fun w => renamed_m hy w
  have cb := fun x w => renamed_c b x w
  clear hrn hsc hE hD hy
  go_enter Tryz.func197, Tryz.ntmps197
  go_wp2_with fail
  have hrn1 := hrn'.out.kept (World.grownBy_alloc w (.cells #[.int .u8 c.toNat, str d, .iface (pt b) y] 46) none)
  refine Calls.mono (hnext.out _ (hito'.out.below ((Below.refl _ _).alloc (Nat.le_refl _) _) hBw) (by simp; omega) hrn1) ?_
  rintro e w1 ⟨rfl, hrn2, hgr1⟩
  have hbc0 := hrn'.out.counts.lt
  have hr0 := hrn'.out.lt
  have hbx := (hgr1.block w.heap.size (by simp) (by simp; omega)).trans (heap_alloc_new w _)
  obtain ⟨z0, z1, z2⟩ := three_cells hbx
  have hzlt : w.heap.size < w1.heap.size := by have := hgr1.size; simp at this; omega
  have hgw1 := Lib.hid (grown_trans' (World.grownBy_alloc w (.cells #[.int .u8 c.toNat, str d, .iface (pt b) y] 46) (some bc)) hgr1)
  have hst2 : StOk L (st.put (varB c) (nxt L (varB c) (st.get (varB c)) + 1)) (a + 1) := stOk_next hst (varB c)
  have n1 : cname (varB c) (nxt L (varB c) (st.get (varB c))) ≠ [] := by unfold cname; simp
  have hren : Hid ((P.bd (c :: d) b).ren L (putAt L sub) sc st = (.bd (cname (varB c) (nxt L (varB c) (st.get (varB c)))) (b.ren L (putAt L sub) ((c :: d, cname (varB c) (nxt L (varB c) (st.get (varB c)))) :: sc) (st.put (varB c) (nxt L (varB c) (st.get (varB c)) + 1))).1, (b.ren L (putAt L sub) ((c :: d, cname (varB c) (nxt L (varB c) (st.get (varB c)))) :: sc) (st.put (varB c) (nxt L (varB c) (st.get (varB c)) + 1))).2)) := rfl
  generalize hnm : cname (varB c) (nxt L (varB c) (st.get (varB c))) = nm at *
  generalize hs2 : st.put (varB c) (nxt L (varB c) (st.get (varB c)) + 1) = st2 at *
  obtain ⟨cn, dn, rfl⟩ : ∃ cn dn, nm = cn :: dn := by cases nm with
    | nil => exact absurd rfl n1
    | cons c d => exact ⟨c, d, rfl⟩
  have hleaf := Lib.hid (fun W => leaf_any cn dn W)
  have hrn2' := Lib.hid hrn2
  rw [show nameW (cn :: dn) = nameV cn dn from rfl]
  clear hgr1 hrn1 hnm hs2 hbx hrn2
  have hw1' : ∃ w1' : World, w1' = w1.alloc (.cells #[.int .u8 cn.toNat, str dn] 41) := ⟨_, rfl⟩
  obtain ⟨wA, hwA⟩ := hw1'
  have hszA : wA.heap.size = w1.heap.size + 1 := by rw [hwA]; simp
  have hA0 : wA.heap[w.heap.size]? = w1.heap[w.heap.size]? := by rw [hwA]; exact Below.heap_alloc _ _ _ hzlt
  have hA1 : wA.heap[w1.heap.size]? = some (.cells #[.int .u8 cn.toNat, str dn] 41 (0, 0)) := by rw [hwA]; exact heap_alloc_new _ _
  have hgA : w1.grownBy wA none := by rw [hwA]; exact World.grownBy_alloc _ _ _
  obtain ⟨zA, m0, m1, -, -⟩ := two_cells hA1
  have hS : Hid (∀ W' : World, W'.heap[w.heap.size]? = wA.heap[w.heap.size]? → W'.heap[w1.heap.size]? = wA.heap[w1.heap.size]? → (W'.cell? ⟨w.heap.size, 0, none⟩ = some (.int .u8 c.toNat) ∧ W'.cell? ⟨w.heap.size, 1, none⟩ = some (str d) ∧ W'.cell? ⟨w.heap.size, 2, none⟩ = some (.iface (pt b) y) ∧
      W'.cell? ⟨w1.heap.size, 0, none⟩ = some (.int .u8 cn.toNat) ∧ W'.cell? ⟨w1.heap.size, 1, none⟩ = some (str dn))) := fun W' h1 h2 =>
    ⟨(World.cell?_of_block (a := ⟨w.heap.size, 0, none⟩) (h1.trans hA0)).trans z0, (World.cell?_of_block (a := ⟨w.heap.size, 1, none⟩) (h1.trans hA0)).trans z1, (World.cell?_of_block (a := ⟨w.heap.size, 2, none⟩) (h1.trans hA0)).trans z2,
      (World.cell?_of_block (a := ⟨w1.heap.size, 0, none⟩) h2).trans m0, (World.cell?_of_block (a := ⟨w1.heap.size, 1, none⟩) h2).trans m1⟩
  have hgwA := Lib.hid (grown_trans' hgw1.out (⟨hgA.os, hgA.tape, hgA.output, hgA.size, fun k hk _ => hgA.block k hk (by simp)⟩ : w1.grownBy wA (some bc)))
  have hcall : Hid (∀ w2 : World, Below wA.drew.heap.size wA.drew w2 → Calls Tryz.prog (renamedFn b) #[y, .pointer (some ⟨r, 0, none⟩), .pointer (some ⟨w2.heap.size, 0, none⟩)]
      (w2.alloc (.cells #[.int .u8 c.toNat, str d, .iface (pt (.nm (cn :: dn))) (nameV cn dn), .pointer qv] 168)) (RenPost bc (b.ren L (putAt L sub) ((c :: d, cn :: dn) :: sc) st2).1 r bf L (b.ren L (putAt L sub) ((c :: d, cn :: dn) :: sc) st2).2 (w2.alloc (.cells #[.int .u8 c.toNat, str d, .iface (pt (.nm (cn :: dn))) (nameV cn dn), .pointer qv] 168)))) := by
    intro w2 hb2
    have hs2 := hb2.size
    have hsA : w.heap.size + 1 ≤ wA.heap.size := by omega
    have hgw2 : w.grownBy (w2.alloc (.cells #[.int .u8 c.toNat, str d, .iface (pt (.nm (cn :: dn))) (nameV cn dn), .pointer qv] 168)) (some bc) :=
      grown_trans' hgwA.out (grown_trans' (below_grown (below_undrew hb2) (some bc)) (World.grownBy_alloc w2 _ _))
    have hkb : ∀ g, g < w.heap.size ∧ g ≠ bc → (w2.alloc (.cells #[.int .u8 c.toNat, str d, .iface (pt (.nm (cn :: dn))) (nameV cn dn), .pointer qv] 168)).heap[g]? = w.heap[g]? := fun g hg => hgw2.block g hg.1 (by simp; exact hg.2)
    have hsz2 : w2.heap.size < (w2.alloc (.cells #[.int .u8 c.toNat, str d, .iface (pt (.nm (cn :: dn))) (nameV cn dn), .pointer qv] 168)).heap.size := by simp
    have hnew := heap_alloc_new w2 (.cells #[.int .u8 c.toNat, str d, .iface (pt (.nm (cn :: dn))) (nameV cn dn), .pointer qv] 168)
    have hs2' : wA.heap.size ≤ w2.heap.size := hs2
    refine H.out r bf bc L st2 (a + 1) ((c :: d, cn :: dn) :: sc) _ _ D (fun g => E g ∨ g = w2.heap.size) y (hito'.out.grown hgw2 hBw hB) hB (Nat.le_trans hBw hgw2.size) ?_ hL (PI.keep (fun g hg => hkb g (hD'.out g hg)) (fun _ h => h) _ _ hy'.out) (fun g hg => ⟨?_, (hD'.out g hg).2⟩) ?_ ?_ ?_ hst2 (by omega)
    · exact ((hrn2'.out.kept hgA).kept (below_none (below_undrew hb2))).kept (World.grownBy_alloc w2 _ none)
    · have := (hD'.out g hg).1; omega
    · refine ⟨w2.heap.size, .pointer qv, nameV cn dn, rfl, .inr rfl, block_cells hnew 0 _ rfl, block_cells hnew 1 _ rfl, block_cells hnew 2 _ rfl, ⟨cn, dn, rfl, rfl⟩, block_cells hnew 3 _ rfl, SCP.keep (fun g hg => hkb g (hE'.out g hg)) (fun g hg => .inl hg) _ _ hsc'.out⟩
    · intro g hg
      rcases hg with hg | hg
      · exact ⟨by have := (hE'.out g hg).1; omega, (hE'.out g hg).2⟩
      · subst hg; exact ⟨by omega, by omega⟩
    · intro o n hm
      rcases List.mem_cons.1 hm with e | hm
      · injection e with e1 e2; subst e1; simp
      · exact hne o n hm
  rw [show (.int .u8 cn.toNat : Value) = .int .u8 cn.toNat from rfl] at m0
  have hjA : ∀ j, j = w.heap.size ∨ j = w1.heap.size → j < wA.heap.size ∧ j ≠ bc := fun j hj => by omega
  have hSb : Hid (∀ w2 : World, Below wA.drew.heap.size wA.drew w2 → (w2.cell? ⟨w.heap.size, 0, none⟩ = some (.int .u8 c.toNat) ∧ w2.cell? ⟨w.heap.size, 1, none⟩ = some (str d) ∧ w2.cell? ⟨w.heap.size, 2, none⟩ = some (.iface (pt b) y) ∧ w2.cell? ⟨w1.heap.size, 0, none⟩ = some (.int .u8 cn.toNat) ∧ w2.cell? ⟨w1.heap.size, 1, none⟩ = some (str dn))) := fun w2 h => hS.out w2 ((below_undrew h).block _ (hjA _ (.inl rfl)).1) ((below_undrew h).block _ (hjA _ (.inr rfl)).1)
  have hSa : Hid (∀ w2 : World, Below wA.drew.heap.size wA.drew w2 → ((w2.alloc (.cells #[.int .u8 c.toNat, str d, .iface (pt (.nm (cn :: dn))) (nameV cn dn), .pointer qv] 168)).cell? ⟨w.heap.size, 0, none⟩ = some (.int .u8 c.toNat) ∧ (w2.alloc (.cells #[.int .u8 c.toNat, str d, .iface (pt (.nm (cn :: dn))) (nameV cn dn), .pointer qv] 168)).cell? ⟨w.heap.size, 1, none⟩ = some (str d) ∧ (w2.alloc (.cells #[.int .u8 c.toNat, str d, .iface (pt (.nm (cn :: dn))) (nameV cn dn), .pointer qv] 168)).cell? ⟨w.heap.size, 2, none⟩ = some (.iface (pt b) y) ∧ (w2.alloc (.cells #[.int .u8 c.toNat, str d, .iface (pt (.nm (cn :: dn))) (nameV cn dn), .pointer qv] 168)).cell? ⟨w1.heap.size, 0, none⟩ = some (.int .u8 cn.toNat) ∧ (w2.alloc (.cells #[.int .u8 c.toNat, str d, .iface (pt (.nm (cn :: dn))) (nameV cn dn), .pointer qv] 168)).cell? ⟨w1.heap.size, 1, none⟩ = some (str dn))) := fun w2 h => by
    have h' := (below_undrew h).alloc (below_undrew h).size (.cells #[.int .u8 c.toNat, str d, .iface (pt (.nm (cn :: dn))) (nameV cn dn), .pointer qv] 168)
    exact hS.out _ (h'.block _ (hjA _ (.inl rfl)).1) (h'.block _ (hjA _ (.inr rfl)).1)
  have hS3 : Hid (∀ w2 w3 : World, Below wA.drew.heap.size wA.drew w2 → (w2.alloc (.cells #[.int .u8 c.toNat, str d, .iface (pt (.nm (cn :: dn))) (nameV cn dn), .pointer qv] 168)).grownBy w3 (some bc) → (w3.cell? ⟨w.heap.size, 0, none⟩ = some (.int .u8 c.toNat) ∧ w3.cell? ⟨w.heap.size, 1, none⟩ = some (str d) ∧ w3.cell? ⟨w.heap.size, 2, none⟩ = some (.iface (pt b) y) ∧ w3.cell? ⟨w1.heap.size, 0, none⟩ = some (.int .u8 cn.toNat) ∧ w3.cell? ⟨w1.heap.size, 1, none⟩ = some (str dn))) := fun w2 w3 h hg => by
    have h' := (below_undrew h).alloc (below_undrew h).size (.cells #[.int .u8 c.toNat, str d, .iface (pt (.nm (cn :: dn))) (nameV cn dn), .pointer qv] 168)
    have e : ∀ j, j = w.heap.size ∨ j = w1.heap.size → w3.heap[j]? = wA.heap[j]? := fun j hj => (hg.block j (Nat.lt_of_lt_of_le (hjA j hj).1 h'.size) (by have := (hjA j hj).2; simp; exact this)).trans (h'.block j (hjA j hj).1)
    exact hS.out _ (e _ (.inl rfl)) (e _ (.inr rfl))
  clear hrn2'
  go_wp2_with fail
  subst hwA
  go_region_held3 (fun W' => W'.cell? ⟨w.heap.size, 0, none⟩ = some (.int .u8 c.toNat) ∧ W'.cell? ⟨w.heap.size, 1, none⟩ = some (str d) ∧ W'.cell? ⟨w.heap.size, 2, none⟩ = some (.iface (pt b) y) ∧
      W'.cell? ⟨w1.heap.size, 0, none⟩ = some (.int .u8 cn.toNat) ∧ W'.cell? ⟨w1.heap.size, 1, none⟩ = some (str dn))
    (first
      | exact hS.out _ rfl rfl
      | exact hS3.out w2 w3 hb2 hgr3
      | exact hSb.out w2 hb2
      | exact hSa.out w2 hb2)
    (first
      | (go_at_call 96; refine Calls.mono (hleaf.out _) ?_; rintro e w2 ⟨rfl, hb2⟩)
      | (refine Calls.mono (hcall.out w2 hb2) ?_; rintro e w3 ⟨z, rfl, hz, hrn3, hgr3⟩))
  have hfin : Hid (RenPost bc ((P.bd (c :: d) b).ren L (putAt L sub) sc st).1 r bf L ((P.bd (c :: d) b).ren L (putAt L sub) sc st).2 w (.returned (.iface 46 (.agg #[.int .u8 cn.toNat, str dn, .iface (pt (b.ren L (putAt L sub) ((c :: d, cn :: dn) :: sc) st2).1) z]))) w3) := by
    rw [hren.out]
    have hs2 := (below_undrew hb2).size
    have hgw2 : w.grownBy (w2.alloc (.cells #[.int .u8 c.toNat, str d, .iface (pt (.nm (cn :: dn))) (nameV cn dn), .pointer qv] 168)) (some bc) :=
      grown_trans' hgwA.out (grown_trans' (below_grown (below_undrew hb2) (some bc)) (World.grownBy_alloc w2 _ _))
    refine ⟨_, rfl, ⟨cn, dn, z, rfl, rfl, hz.to (fun g hg => ⟨Nat.le_trans hgw2.size hg.1, hg.2⟩)⟩, hrn3, grown_trans' hgw2 hgr3⟩
  clear hz hrn3 hgr3
  go_wp2_with fail
  go_ret
  exact hfin.out


def renL (L : List Bs) (g : Bs → St → P × St) (sc : List (Bs × Bs)) : List P → St → List P × St
  | [], st => ([], st)
  | p :: ps, st => ((p.ren L g sc st).1 :: (renL L g sc ps (p.ren L g sc st).2).1, (renL L g sc ps (p.ren L g sc st).2).2)
def bindersL (l : List P) : Nat := sumL (l.map P.binders)
theorem renL_snoc (L : List Bs) (g : Bs → St → P × St) (sc : List (Bs × Bs)) (q : P) : ∀ (ps : List P) (st : St), renL L g sc (ps ++ [q]) st = ((renL L g sc ps st).1 ++ [(q.ren L g sc (renL L g sc ps st).2).1], (q.ren L g sc (renL L g sc ps st).2).2)
  | [], st => rfl
  | p :: ps, st => by rw [List.cons_append, renL, renL_snoc L g sc q ps]; rfl
theorem renL_len (L : List Bs) (g : Bs → St → P × St) (sc : List (Bs × Bs)) : ∀ (ps : List P) (st : St), (renL L g sc ps st).1.length = ps.length
  | [], st => rfl
  | p :: ps, st => by rw [renL]; simp [renL_len L g sc ps]
theorem bindersL_cons (p : P) (ps : List P) : bindersL (p :: ps) = p.binders + bindersL ps := by simp [bindersL, sumL]
theorem bindersL_append (ps qs : List P) : bindersL (ps ++ qs) = bindersL ps + bindersL qs := by
  induction ps with
  | nil => simp [bindersL, sumL]
  | cons p ps ih => rw [List.cons_append, bindersL_cons, bindersL_cons, ih]; omega
theorem renL_st {L : List Bs} {g : Bs → St → P × St} (hg : GSt L g) (sc : List (Bs × Bs)) : ∀ (ps : List P) (st : St) (a : Nat), StOk L st a → StOk L (renL L g sc ps st).2 (a + bindersL (renL L g sc ps st).1)
  | [], st, a, h => h
  | p :: ps, st, a, h => by
    have h1 := ren_st hg p sc st a h
    have h2 := renL_st hg sc ps _ _ h1
    rw [renL, bindersL_cons, ← Nat.add_assoc]
    exact h2
theorem renL_le (L : List Bs) (g : Bs → St → P × St) (sc : List (Bs × Bs)) : ∀ (ps : List P) (st : St) (j : Nat), bindersL (renL L g sc (ps.take j) st).1 ≤ bindersL (renL L g sc ps st).1
  | [], st, j => by simp
  | p :: ps, st, 0 => by simp [renL, bindersL, sumL]
  | p :: ps, st, j + 1 => by
    have := renL_le L g sc ps (p.ren L g sc st).2 j
    rw [List.take_succ_cons, renL, renL, bindersL_cons, bindersL_cons]
    exact Nat.add_le_add_left this _

theorem prow_step2 {lo bc : Nat} {wr w1 W w2 : World} {base : Nat} {E : TypeId} {v : Value} {n m cap : Nat} {xs : List Value} {qs : List P} {q : P} {y : Value} {g : Nat}
    (hbc : bc < lo) (hwr : lo ≤ wr.heap.size) (own : wr.ownsRow base E 1 v n xs) (kids : PRow wr (fun g => New lo wr g ∧ v.ownBlock ≠ some g) qs xs)
    (hb1 : wr.grownBy w1 (some bc)) (hq : PI w1 (New wr.heap.size w1) q y) (hW : Below w1.heap.size w1 W) (hgrow : W.grownBy w2 v.ownBlock)
    (hat : v.ownBlock = some g ∨ g = W.heap.size) :
    PRow w2 (fun g' => New lo w2 g' ∧ (Value.slice (some ⟨g, 0, none⟩) m cap).ownBlock ≠ some g') (qs ++ [q]) (xs ++ [.iface (pt q) y]) := by
  have s1 := hb1.size
  have s2 := hW.size
  have s3 := hgrow.size
  refine PRow.snoc ?_ ?_
  · refine PI.keep (fun g' hg => ?_) (fun g' hg => ?_) _ _ hq
    · obtain ⟨h1, h2⟩ := hg
      rw [hgrow.block g' (by omega) (fun e => ?_), hW.block g' (by omega)]
      have := own.lt g' e.symm
      omega
    · obtain ⟨h1, h2⟩ := hg
      refine ⟨⟨by omega, by omega⟩, fun e => ?_⟩
      have e' : g = g' := by simpa [Value.ownBlock] using e
      subst e'
      rcases hat with hat | hat
      · have := own.lt g hat
        omega
      · omega
  · refine PRow.keep (fun g' hg => ?_) (fun g' hg => ?_) kids
    · obtain ⟨⟨h1, h2⟩, h3⟩ := hg
      rw [hgrow.block g' (by omega) (fun e => h3 e.symm), hW.block g' (by omega), hb1.block g' h2 (by simp; omega)]
    · obtain ⟨⟨h1, h2⟩, h3⟩ := hg
      refine ⟨⟨h1, by omega⟩, fun e => ?_⟩
      have e' : g = g' := by simpa [Value.ownBlock] using e
      subst e'
      rcases hat with hat | hat
      · exact h3 hat
      · omega

set_option maxRecDepth 100000 in
set_option maxHeartbeats 2000000 in
theorem renp_form (N B : Nat) (sub : Option (Bs × P)) (p : P) (h : Bs) (ks : List P) (hf : IsForm p h ks) (hk : ∀ q ∈ ks, Hid (RENP N B sub q)) (p' : P) (r bf bc : Nat) (L : List Bs) (st : St) (a : Nat) (sc : List (Bs × Bs)) (sv : Value) (w : World) (D E : Nat → Prop) (x : Value) (hito : ITO N B w) (hB : B ≤ bc) (hBw : B ≤ w.heap.size) (hrn : RN w r bf bc L st) (hL : NamesOk L) (hx : PI w D p x) (hD : ∀ g, D g → g < w.heap.size ∧ g ≠ bc)
    (hsc : SCP w E (chain sc sub) sv) (hE : ∀ g, E g → g < w.heap.size ∧ g ≠ bc) (hne : ChNe (chain sc sub)) (hst : StOk L st a) (ha : a + bindersL (renL L (putAt L sub) sc ks st).1 + L.length < N) (hfd : IsForm p' h (renL L (putAt L sub) sc ks st).1) :
    Calls Tryz.prog 204 #[x, .pointer (some ⟨r, 0, none⟩), sv] w (RenPost bc p' r bf L (renL L (putAt L sub) sc ks st).2 w) := by
  obtain ⟨g, n, rfl, hg, hc⟩ := hx.form hf
  obtain ⟨qv, rfl⟩ := hsc.ptr
  obtain ⟨i0, hi0, hz0, hz1, hz2⟩ := info_parts infoProgram
  have hgw := (hD g hg).1
  have hgne := (hD g hg).2
  have hks := hf.len
  have hk' := Lib.hid hk
  have hD' := Lib.hid hD
  have hc' := Lib.hid hc
  have hfd' := Lib.hid hfd
  have hrn' := Lib.hid hrn
  have hito' := Lib.hid hito
  have hsc' := Lib.hid hsc
  have hE' := Lib.hid hE
  have hne' := Lib.hid hne
  have hbc0 := hrn.counts.lt
  clear hk hD hc hx hfd hrn hsc hE hne hito
  go_enter Tryz.func204, Tryz.ntmps204
  go_wp2_with fail
  have hw0 : ∃ w0 : World, w0 = w.alloc (.cells #[str h, .slice (some ⟨g, 0, none⟩) ks.length n] 77) := ⟨_, rfl⟩
  obtain ⟨w0, hw0⟩ := hw0
  have hsz0 : w0.heap.size = w.heap.size + 1 := by rw [hw0]; simp
  have hg0 : Hid (w.grownBy w0 none) := Lib.hid (by rw [hw0]; exact World.grownBy_alloc _ _ _)
  have hbox0 := Lib.hid (show w0.heap[w.heap.size]? = some (.cells #[str h, .slice (some ⟨g, 0, none⟩) ks.length n] 77 (0, 0)) from by rw [hw0]; exact heap_alloc_new _ _)
  have hrn0 := hrn'.out.kept hg0.out
  rw [← hw0]
  clear hw0
  go_loopw [7, 13] (fun v i wr => ∃ (j : Nat) (A1 : Option Addr) (c1 : Nat) (xs : List Value), j ≤ ks.length ∧ i = .int .i64 j ∧ v = .slice A1 j c1 ∧
      wr.ownsRow (w.heap.size + 1) 36 1 (.slice A1 j c1) j xs ∧ PRow wr (fun g => New (w.heap.size + 1) wr g ∧ (Value.slice A1 j c1).ownBlock ≠ some g) (renL L (putAt L sub) sc (ks.take j) st).1 xs ∧
      RN wr r bf bc L (renL L (putAt L sub) sc (ks.take j) st).2 ∧ w0.grownBy wr (some bc))
    (fun _ i _ => ks.length - (intOf i).toNat)
  case atStart => exact ⟨0, none, 0, [], Nat.zero_le _, rfl, rfl, World.ownsRow_nil _ _ _ _, rfl, hrn0, grown_refl' _ _⟩
  case round =>
    obtain ⟨j, A1, c1, xs, hj, rfl, rfl, own1, kids1, hrn1, hgr1⟩ := hrel
    have hs1 := hgr1.size
    have hold : Hid (∀ k, k < w.heap.size ∧ k ≠ bc → wr.heap[k]? = w.heap[k]?) := fun k hk => (hgr1.block k (by omega) (by simp; exact hk.2)).trans (hg0.out.block k hk.1 (by simp))
    by_cases hlt : j < ks.length
    · obtain ⟨q, hq⟩ : ∃ q, ks[j]? = some q := ⟨ks[j], List.getElem?_eq_getElem _⟩
      obtain ⟨y, hy, hpi⟩ := hc'.out j q hq
      have hy1 := (World.cell?_of_block (a := ⟨g, j, none⟩) (hold.out g ⟨hgw, hgne⟩)).trans hy
      have hR := hk'.out q (List.mem_of_getElem? hq)
      have mq := fun w => renamed_m hpi w
      have cq := fun x w => renamed_c q x w
      have hgr : g < wr.heap.size := by omega
      have hbl := renL_le L (putAt L sub) sc ks st (j + 1)
      have hstj := renL_st (gst_put L sub) sc (ks.take j) st a hst
      have hpref0 : renL L (putAt L sub) sc (ks.take (j + 1)) st = ((renL L (putAt L sub) sc (ks.take j) st).1 ++ [(q.ren L (putAt L sub) sc (renL L (putAt L sub) sc (ks.take j) st).2).1], (q.ren L (putAt L sub) sc (renL L (putAt L sub) sc (ks.take j) st).2).2) := by
        rw [List.take_add_one, hq]; exact renL_snoc L (putAt L sub) sc q (ks.take j) st
      have hbt : bindersL (renL L (putAt L sub) sc (ks.take (j + 1)) st).1 = bindersL (renL L (putAt L sub) sc (ks.take j) st).1 + (q.ren L (putAt L sub) sc (renL L (putAt L sub) sc (ks.take j) st).2).1.binders := by
        rw [hpref0, bindersL_append, bindersL_cons]; simp [bindersL, sumL]
      have hgw1 : w.grownBy wr (some bc) := grown_trans' ⟨hg0.out.os, hg0.out.tape, hg0.out.output, hg0.out.size, fun k hk _ => hg0.out.block k hk (by simp)⟩ hgr1
      have hcallR := Lib.hid (hR.out r bf bc L (renL L (putAt L sub) sc (ks.take j) st).2 (a + bindersL (renL L (putAt L sub) sc (ks.take j) st).1) sc (.pointer qv) wr D E y (hito'.out.grown hgw1 hBw hB) hB (Nat.le_trans hBw hgw1.size) hrn1 hL (PI.keep (fun g hg => hold.out g (hD'.out g hg)) (fun _ h => h) _ _ hpi) (fun g hg => And.intro (by have := (hD'.out g hg).1; omega) (hD'.out g hg).2)
        (SCP.keep (fun g hg => hold.out g (hE'.out g hg)) (fun _ h => h) _ _ hsc'.out) (fun g hg => And.intro (by have := (hE'.out g hg).1; omega) (hE'.out g hg).2) hne'.out hstj (by omega))
      have hpref := Lib.hid hpref0
      clear hpref0 hgw1
      generalize (q.ren L (putAt L sub) sc (renL L (putAt L sub) sc (ks.take j) st).2).1 = q' at *
      generalize (q.ren L (putAt L sub) sc (renL L (putAt L sub) sc (ks.take j) st).2).2 = st' at *
      have hgr1' := Lib.hid hgr1
      have own1' := Lib.hid own1
      have kids1' := Lib.hid kids1
      clear hy hpi hq hgr1 own1 kids1 hrn1 hbt hbl hstj
      go_wp2_with fail
      refine Calls.mono hcallR.out ?_
      rintro e w4 ⟨z, rfl, hz, hrn4, hg4⟩
      have hz' := Lib.hid hz
      have hg4' := Lib.hid hg4
      have hrn4' := Lib.hid hrn4
      have own4 : Hid (w4.ownsRow (w.heap.size + 1) 36 1 (.slice A1 j c1) j xs) := Lib.hid (own1'.out.kept hg4 (by
        cases hob : (Value.slice A1 j c1).ownBlock with
        | none => exact .inl rfl
        | some k => exact .inr (fun e => by injection e with e; have := (own1'.out.lt k hob).1; omega)))
      have hs4 := hg4.size
      clear hz hg4 hrn4
      go_wp2_with (at_builtin; go_loud (refine wpList_append_lies _ rfl (.tmp 17) (.tmp 22) 75 rfl (w.heap.size + 1) 36 i0 _ 1 16 Tryz.underlying75 hi0 hz0 hz1 hz2 rfl (by decide) _ _ _ rfl (own4.out.alloc _) ⟨w4.heap.size, 0, none⟩ 1 1 [.iface (pt q') z] rfl rfl ?c1 ?c2 (by decide) ?c3 ?c4 ?c5 _ rfl ?_))
      case c1 => exact World.news_of_block (cs := #[.iface (pt q') z]) (heap_alloc_new _ _)
      case c2 => intro u hu; simp at hu; rw [hu]; rfl
      case c3 => unfold maxLen; omega
      case c4 => omega
      case c5 => simp; omega
      intro g2 cap w5 own5 gr5 hat hlt5
      have hrow := Lib.hid (prow_step2 (m := j + 1) (cap := cap) (show bc < w.heap.size + 1 by omega) (show w.heap.size + 1 ≤ wr.heap.size by omega) own1'.out kids1'.out hg4'.out hz'.out ((Below.refl _ _).alloc (Nat.le_refl _) (.cells #[.iface (pt q') z] 36)) gr5 (g := g2) (by rcases hat with h | h; exact .inl h; exact .inr (by rw [h]; simp)))
      have hrnA := hrn4'.out.kept (World.grownBy_alloc w4 (.cells #[.iface (pt q') z] 36) none)
      have hnob : ∀ k, k < w.heap.size + 1 → some k ≠ (Value.slice A1 j c1).ownBlock := fun k hk e => by have := (own1'.out.lt k e.symm).1; omega
      have hrlt := hrn'.out.lt
      have hflt := hrn'.out.free.lt
      have hrn5 : Hid (RN w5 r bf bc L st') := ⟨(gr5.block r (by simp; omega) (hnob r (by omega))).trans hrnA.box, hrnA.free.kept gr5 (hnob bf (by omega)), hrnA.counts.kept gr5 (hnob bc (by omega)), hrnA.ne1, hrnA.ne2⟩
      have hgr5 : Hid (w0.grownBy w5 (some bc)) := by
        have h1 := grown_trans' hgr1'.out (grown_trans' hg4'.out (World.grownBy_alloc w4 (.cells #[.iface (pt q') z] 36) (some bc)))
        exact ⟨gr5.os.trans h1.os, gr5.tape.trans h1.tape, gr5.output.trans h1.output, Nat.le_trans h1.size gr5.size, fun k hk hne => (gr5.block k (Nat.lt_of_lt_of_le hk h1.size) (hnob k (by omega))).trans (h1.block k hk hne)⟩
      have own5' := Lib.hid own5
      clear own5 gr5 hat hrnA hnob
      go_wp2_with fail
      go_roundw
      case rel => exact ⟨j + 1, some ⟨g2, 0, none⟩, cap, xs ++ [.iface (pt q') z], by omega, by go_num, rfl, own5'.out, by rw [hpref.out]; exact hrow.out, by rw [hpref.out]; exact hrn5.out, hgr5.out⟩
      case measure => simp [intOf]; omega
    · have e : j = ks.length := by omega
      subst e
      rw [List.take_of_length_le (Nat.le_refl _)] at kids1 hrn1
      obtain ⟨g2, cap, hv, hown, hlt2⟩ := own1.form (by omega)
      have hA : A1 = some ⟨g2, 0, none⟩ := by injection hv
      obtain rfl : c1 = cap := by injection hv
      subst hA
      have hg2 := (own1.lt g2 rfl).1
      have hrl := renL_len L (putAt L sub) sc ks st
      have hfin : ∀ wf : World, Below wr.heap.size wr wf → RenPost bc p' r bf L (renL L (putAt L sub) sc ks st).2 w (.returned (.iface 77 (.agg #[str h, .slice (some ⟨g2, 0, none⟩) ks.length c1]))) wf := fun wf hbf => by
        obtain ⟨hpi, hpt⟩ := PI.ofForm (w := wf) (D := New w.heap.size wf) (n := c1) hfd'.out (g := g2) ⟨by omega, Nat.lt_of_lt_of_le hlt2 hbf.size⟩ (fun i q hi => by
          obtain ⟨y, h1, h2⟩ := kids1.at_ hi
          have h3 := own1.cells (g := g2) rfl i _ h1
          have e : ({ block := g2, off := 0, spot := none } : Addr).add i = ⟨g2, i, none⟩ := by unfold Addr.add; split <;> simp_all
          rw [e] at h3
          exact ⟨y, (hbf.cell (p := ⟨g2, i, none⟩) hlt2).trans h3, (h2.below hbf (fun g hg => hg.1.2)).to (fun g hg => ⟨by have := hg.1.1; omega, Nat.lt_of_lt_of_le hg.1.2 hbf.size⟩)⟩)
        rw [hrl] at hpi
        refine ⟨_, by rw [hpt], hpi, hrn1.kept (below_none hbf), ?_⟩
        have h1 : w.grownBy w0 (some bc) := ⟨hg0.out.os, hg0.out.tape, hg0.out.output, hg0.out.size, fun k hk _ => hg0.out.block k hk (by simp)⟩
        exact grown_trans' h1 (grown_trans' hgr1 (below_grown hbf _))
      obtain ⟨z0, r0, r1, -, -⟩ := two_cells ((hgr1.block w.heap.size (by omega) (by simp; omega)).trans hbox0.out)
      have hfin' := Lib.hid hfin
      clear hfin kids1 own1 hrn1 hgr1 hv hown
      go_wp2_with fail
      go_ret
      exact hfin'.out wr (Below.refl _ _)

theorem renp_all (N B : Nat) (hN : N ≤ 1000000) (sub : Option (Bs × P)) (Hsub : ∀ n q, sub = some (n, q) → Hid (RENP0 N B q)) : ∀ p : P, RENP N B sub p
  | .nm s => renp_nm N B sub Hsub s
  | .f1 h p => fun r bf bc L st a sc sv w D E x hito hB hBw hrn hL hx hD hsc hE hne hst ha => by
    have H := renp_all N B hN sub Hsub p
    exact renp_form N B sub (.f1 h p) h [p] ⟨rfl, rfl⟩ (fun q hq => by simp at hq; subst hq; exact H) ((P.f1 h p).ren L (putAt L sub) sc st).1 r bf bc L st a sc sv w D E x hito hB hBw hrn hL hx hD hsc hE hne hst (by
      have e : bindersL (renL L (putAt L sub) sc [p] st).1 = ((P.f1 h p).ren L (putAt L sub) sc st).1.binders := by simp [bindersL, sumL, renL, P.ren, P.binders]
      rw [e]; exact ha) ⟨rfl, rfl⟩
  | .f2 h p q => fun r bf bc L st a sc sv w D E x hito hB hBw hrn hL hx hD hsc hE hne hst ha => by
    have H := renp_all N B hN sub Hsub p
    have H' := renp_all N B hN sub Hsub q
    exact renp_form N B sub (.f2 h p q) h [p, q] ⟨rfl, rfl⟩ (fun u hu => by simp at hu; rcases hu with rfl | rfl; exact H; exact H') ((P.f2 h p q).ren L (putAt L sub) sc st).1 r bf bc L st a sc sv w D E x hito hB hBw hrn hL hx hD hsc hE hne hst (by
      have e : bindersL (renL L (putAt L sub) sc [p, q] st).1 = ((P.f2 h p q).ren L (putAt L sub) sc st).1.binders := by simp [bindersL, sumL, renL, P.ren, P.binders]
      rw [e]; exact ha) ⟨rfl, rfl⟩
  | .bd s b => renp_bd N B hN sub s b (renp_all N B hN sub Hsub b)
theorem ren_stay (L : List Bs) : ∀ (p : P) (sc : List (Bs × Bs)) (st : St), p.ren L (putAt L none) sc st = p.ren L stay sc st := by
  have : putAt L none = stay := by funext s st; rfl
  intro p sc st; rw [this]
theorem renp0_any (N B : Nat) (hN : N ≤ 1000000) (p : P) : RENP0 N B p := fun r bf bc L st a w D x hito hB hBw hrn hL hx hD hst ha => by
  have h := renp_all N B hN none (fun n q h => by cases h) p r bf bc L st a [] (.pointer none) w D (fun _ => False) x hito hB hBw hrn hL hx hD rfl (fun g hg => hg.elim) (fun o q h => by cases h) hst (by rw [ren_stay]; exact ha)
  rw [ren_stay] at h
  exact h
theorem renp_put (N B : Nat) (hN : N ≤ 1000000) (n : Bs) (q : P) (p : P) : RENP N B (some (n, q)) p :=
  renp_all N B hN (some (n, q)) (fun n' q' h => by injection h with h; injection h with h1 h2; subst h2; exact renp0_any N B hN q) p

end Go.Proofs.YtaagbnbekfogiaaGreatDoor
