/- (impl.name).renamed. The methods 'renamed' of programs. (impl.form).renamed. -/
import Derived.Test.YtcdagenocmmidaaNext
import Derived.Test.YtcdagenocmmidaaTextP
import Derived.Test.YtcdagenocmmidaaMakeP
namespace Go.Proofs.Ytcdagenocmmidaa
set_option linter.unusedVariables false
open Go.RowKit Go.Maps

/-- What stands for names, the innermost one first. -/
def SCP (w : World) (E : Nat → Prop) : List (Bs × Bs) → Value → Prop
  | [], v => v = .pointer none
  | (o, n) :: sc, v => ∃ g v', v = .pointer (some ⟨g, 0, none⟩) ∧ E g ∧ w.cell? ⟨g, 0, none⟩ = some (.int .u8 (hdI o)) ∧ w.cell? ⟨g, 1, none⟩ = some (str o.tail) ∧ w.cell? ⟨g, 2, none⟩ = some (.iface (pt (.nm n)) (nameW n)) ∧ w.cell? ⟨g, 3, none⟩ = some v' ∧ SCP w E sc v'
theorem SCP.keep {w w' : World} {E E' : Nat → Prop} (hw : ∀ g, E g → w'.heap[g]? = w.heap[g]?) (hE : ∀ g, E g → E' g) : ∀ (sc : List (Bs × Bs)) (v : Value), SCP w E sc v → SCP w' E' sc v
  | [], v, h => h
  | (o, n) :: sc, v, ⟨g, v', hv, hg, h0, h1, h2, h3, hr⟩ =>
    ⟨g, v', hv, hE g hg, (World.cell?_of_block (a := ⟨g, 0, none⟩) (hw g hg)).trans h0, (World.cell?_of_block (a := ⟨g, 1, none⟩) (hw g hg)).trans h1, (World.cell?_of_block (a := ⟨g, 2, none⟩) (hw g hg)).trans h2, (World.cell?_of_block (a := ⟨g, 3, none⟩) (hw g hg)).trans h3, SCP.keep hw hE sc v' hr⟩

set_option maxRecDepth 100000 in
theorem nameRen_nil (r : Value) (c : UInt8) (d : Bs) (w : World) : Calls Try.prog 124 #[nameV c d, r, .pointer none] w fun e w' => e = .returned (.iface (pt (.nm (c :: d))) (nameV c d)) ∧ Below w.heap.size w w' := by
  have hl := Lib.hid (fun W => leaf_any c d W)
  go_enter Try.func124, Try.ntmps124
  go_wp2_with fail
  go_loopw [2] (fun s wr => s = .pointer none ∧ wr = w.alloc (.cells #[.int .u8 c.toNat, str d] 61)) (fun _ _ => 0)
  case atStart => exact ⟨rfl, rfl⟩
  case round =>
    obtain ⟨rfl, rfl⟩ := hrel
    go_wp2_with fail
    refine Calls.mono (hl.out _) ?_
    rintro e w1 ⟨rfl, hb1⟩
    go_wp2_with fail
    go_ret
    exact ⟨rfl, below_step ((Below.refl _ _).alloc (Nat.le_refl _) _) (by simp) hb1⟩

set_option maxRecDepth 100000 in
theorem nameRen_any (r : Nat) (sc : List (Bs × Bs)) (sv : Value) (c : UInt8) (d : Bs) (w : World) (E : Nat → Prop) (hsc : SCP w E sc sv) (hE : ∀ g, E g → g < w.heap.size) (hok : ∀ o n, (o, n) ∈ sc → o ≠ [] ∧ n ≠ []) :
    Calls Try.prog 124 #[nameV c d, .pointer (some ⟨r, 0, none⟩), sv] w fun e w' => e = .returned (.iface (pt (.nm (lookB sc (c :: d)))) (nameW (lookB sc (c :: d)))) ∧ Below w.heap.size w w' := by
  have hl := Lib.hid (fun W => leaf_any c d W)
  have hsc' := Lib.hid (SCP.keep (w' := w.alloc (.cells #[.int .u8 c.toNat, str d] 61)) (fun g hg => Below.heap_alloc _ _ _ (hE g hg)) (fun g hg => hg) sc sv hsc)
  have hE' := Lib.hid hE
  have hok' := Lib.hid hok
  have hb0 : Below (w.heap.size + 1) (w.alloc (.cells #[.int .u8 c.toNat, str d] 61)) (w.alloc (.cells #[.int .u8 c.toNat, str d] 61)) := Below.refl _ _
  clear hsc hE hok
  go_enter Try.func124, Try.ntmps124
  go_wp2_with fail
  go_loopg [2] sc.length (fun f v wr => ∃ sc', sc'.length ≤ f ∧ SCP wr E sc' v ∧ lookB sc' (c :: d) = lookB sc (c :: d) ∧ (∀ o n, (o, n) ∈ sc' → o ≠ [] ∧ n ≠ []) ∧ Below (w.heap.size + 1) (w.alloc (.cells #[.int .u8 c.toNat, str d] 61)) wr)
  case atStart => exact ⟨sc, Nat.le_refl _, hsc'.out, rfl, hok'.out, hb0⟩
  case round =>
    obtain ⟨sc', hlen, hs, hlk, hno, hbel⟩ := hrel
    obtain ⟨z0, r0, r1, -, -⟩ := two_cells ((hbel.block w.heap.size (by omega)).trans (heap_alloc_new w _))
    have hbw : Hid (Below w.heap.size w wr) := Lib.hid (below_step ((Below.refl _ _).alloc (Nat.le_refl _) _ : Below w.heap.size w (w.alloc (.cells #[.int .u8 c.toNat, str d] 61))) (by simp) (by simpa using hbel))
    have hbel' := Lib.hid hbel
    have hlk' := Lib.hid hlk
    clear hbel hlk hb0
    match sc', hs, hlen, hno, hlk' with
    | [], hs, _, _, hlk' =>
      obtain rfl : _ = Value.pointer none := hs
      go_wp2_with fail
      refine Calls.mono (hl.out _) ?_
      rintro e w1 ⟨rfl, hb1⟩
      have hb1' := Lib.hid (below_step hbw.out (Nat.le_refl _) hb1)
      clear hb1
      go_wp2_with fail
      go_ret
      rw [← hlk'.out]
      exact ⟨rfl, hb1'.out⟩
    | (o, n) :: sc', ⟨g, v', hv, hg, h0, h1, h2, h3, hr⟩, hlen, hno, hlk' =>
      subst hv
      obtain ⟨hone, hnne⟩ := hno o n (by simp)
      have hgw : g < wr.heap.size := Nat.lt_of_lt_of_le (hE'.out g hg) hbw.out.size
      have hr' := Lib.hid hr
      have hno' := Lib.hid hno
      clear hr hno
      by_cases hos : o = c :: d
      · subst hos
        obtain ⟨cn, dn, rfl⟩ : ∃ cn dn, n = cn :: dn := by cases n with
          | nil => exact absurd rfl hnne
          | cons c d => exact ⟨c, d, rfl⟩
        have mq := fun w => renamed_m (p := .nm (cn :: dn)) (x := nameV cn dn) (w0 := w) (D := fun _ => False) ⟨cn, dn, rfl, rfl⟩ w
        have cq := fun x w => renamed_c (.nm (cn :: dn)) x w
        rw [show renamedFn (.nm (cn :: dn)) = 124 from by simp [renamedFn, mfn]] at mq cq
        have hnil := Lib.hid (fun W => nameRen_nil (.pointer (some ⟨r, 0, none⟩)) cn dn W)
        have h0' : wr.cell? ⟨g, 0, none⟩ = some (.int .u8 c.toNat) := h0
        have h1' : wr.cell? ⟨g, 1, none⟩ = some (str d) := h1
        have h2' : wr.cell? ⟨g, 2, none⟩ = some (.iface (pt (.nm (cn :: dn))) (nameV cn dn)) := h2
        clear h0 h1 h2
        have hres := Lib.hid (show lookB (((c :: d), (cn :: dn)) :: sc') (c :: d) = cn :: dn from by rw [lookB, if_pos rfl])
        go_wp2_with fail
        go_region
        go_wp2_with fail
        refine Calls.mono (hnil.out _) ?_
        rintro e w1 ⟨rfl, hb1⟩
        have hb1' := Lib.hid (below_step hbw.out.drew (Nat.le_refl _) hb1)
        clear hb1
        go_wp2_with fail
        go_ret
        rw [← hlk'.out, hres.out]
        exact ⟨rfl, hb1'.out⟩
      · obtain ⟨co, dd, rfl⟩ : ∃ co dd, o = co :: dd := by cases o with
          | nil => exact absurd rfl hone
          | cons c d => exact ⟨c, d, rfl⟩
        have h0' : wr.cell? ⟨g, 0, none⟩ = some (.int .u8 co.toNat) := h0
        have h1' : wr.cell? ⟨g, 1, none⟩ = some (str dd) := h1
        clear h0 h1
        have hres := Lib.hid (show lookB (((co :: dd), n) :: sc') (c :: d) = lookB sc' (c :: d) from by rw [lookB, if_neg hos])
        have hcase : ((co.toNat : Int) = (c.toNat : Int)) = False ∨ (((co.toNat : Int) = (c.toNat : Int)) = True ∧ (dd = d) = False) := by
          by_cases h1 : (co.toNat : Int) = (c.toNat : Int)
          · refine .inr ⟨eq_true h1, eq_false fun h2 => hos ?_⟩
            rw [h2, UInt8.toNat_inj.1 (show co.toNat = c.toNat by omega)]
          · exact .inl (eq_false h1)
        have hlen' : sc'.length + 1 ≤ gk := by simpa using hlen
        clear hos hone hnne hlen
        rcases hcase with e1 | ⟨e1, e2⟩
        all_goals
          go_wp2_with fail
          go_region
          go_wp2_with fail
          go_roundg sc'.length
          case measure => omega
          case rel => exact ⟨sc', Nat.le_refl _, SCP.keep (w := wr) (w' := wr.drew) (fun _ _ => rfl) (fun _ h => h) _ _ hr'.out, hres.out.symm.trans hlk'.out, fun o n h => hno'.out o n (List.mem_cons_of_mem _ h), hbel'.out.drew⟩

end Go.Proofs.Ytcdagenocmmidaa

namespace Go.Proofs.Ytcdagenocmmidaa
open Go.RowKit Go.Maps

def NamesOk (L : List Bs) : Prop := ∀ x ∈ L, x ≠ [] ∧ x.length ≤ 9000
def ScNe (sc : List (Bs × Bs)) : Prop := ∀ o n, (o, n) ∈ sc → o ≠ [] ∧ n ≠ []

/-- What the call hands back. -/
def RenPost (bc : Nat) (q : P) (r bf : Nat) (L : List Bs) (st : St) (w : World) (e : Ending) (w' : World) : Prop :=
  ∃ y, e = .returned (.iface (pt q) y) ∧ PI w' (New w.heap.size w') q y ∧ RN w' r bf bc L st ∧ w.grownBy w' (some bc)
def RENP (p : P) : Prop := ∀ (r bf bc : Nat) (L : List Bs) (st : St) (a : Nat) (sc : List (Bs × Bs)) (sv : Value) (w : World) (D E : Nat → Prop) (x : Value), RN w r bf bc L st → NamesOk L → PI w D p x → (∀ g, D g → g < w.heap.size ∧ g ≠ bc) →
  SCP w E sc sv → (∀ g, E g → g < w.heap.size ∧ g ≠ bc) → ScNe sc → StOk L st a → a + p.binders + L.length ≤ 98 →
  Calls Try.prog (renamedFn p) #[x, .pointer (some ⟨r, 0, none⟩), sv] w (RenPost bc (p.ren L sc st).1 r bf L (p.ren L sc st).2 w)

theorem SCP.ptr {w : World} {E : Nat → Prop} {sc : List (Bs × Bs)} {sv : Value} (h : SCP w E sc sv) : ∃ q, sv = .pointer q := by
  cases sc with
  | nil => exact ⟨none, h⟩
  | cons e sc => obtain ⟨o, n⟩ := e; obtain ⟨g, v', hv, _⟩ := h; exact ⟨_, hv⟩
theorem below_undrew {w w2 : World} (h : Below w.drew.heap.size w.drew w2) : Below w.heap.size w w2 := ⟨h.os, h.tape, h.output, h.size, h.block⟩
theorem below_none {w w' : World} (h : Below w.heap.size w w') : w.grownBy w' none := ⟨h.os, h.tape, h.output, h.size, fun k hk _ => h.block k hk⟩

theorem renp_nm (s : Bs) : RENP (.nm s) := by
  intro r bf bc L st a sc sv w D E x hrn hL hx hD hsc hE hne hst ha
  obtain ⟨c, d, rfl, rfl⟩ := hx
  rw [show renamedFn (.nm (c :: d)) = 124 from by simp [renamedFn, mfn]]
  refine Calls.mono (nameRen_any r sc sv c d w E hsc (fun g hg => (hE g hg).1) hne) ?_
  rintro e w' ⟨rfl, hb⟩
  have hnn : lookB sc (c :: d) ≠ [] := by
    have : ∀ sc : List (Bs × Bs), ScNe sc → lookB sc (c :: d) ≠ [] := by
      intro sc
      induction sc with
      | nil => intro _; simp [lookB]
      | cons e sc ih =>
        obtain ⟨o, n⟩ := e
        intro h
        rw [lookB]
        split
        · exact (h o n (by simp)).2
        · exact ih (fun o n hm => h o n (List.mem_cons_of_mem _ hm))
    exact this sc hne
  refine ⟨nameW (lookB sc (c :: d)), rfl, ?_, hrn.kept (below_none hb), below_grown hb _⟩
  show PI _ _ (.nm (lookB sc (c :: d))) _
  generalize lookB sc (c :: d) = t at *
  cases t with
  | nil => exact absurd rfl hnn
  | cons e f => exact ⟨e, f, rfl, rfl⟩

set_option maxRecDepth 100000 in
theorem renp_bd (s : Bs) (b : P) (hs : isName s = true) (H : Hid (RENP b)) : RENP (.bd s b) := by
  intro r bf bc L st a sc sv w D E x hrn hL hx hD hsc hE hne hst ha
  obtain ⟨c, d, y, rfl, rfl, hy⟩ := hx
  obtain ⟨qv, rfl⟩ := hsc.ptr
  show Calls _ 135 _ _ _
  rw [P.binders] at ha
  have hv := var_or hs
  have hnext := Lib.hid (fun W hW => next_any r bf bc L st a c d W hW hL hst (by omega))
  have hrn' := Lib.hid hrn
  have hsc' := Lib.hid hsc
  have hE' := Lib.hid hE
  have hD' := Lib.hid hD
  have hy' := Lib.hid hy
  have mb := fun w => renamed_m hy w
  have cb := fun x w => renamed_c b x w
  clear hrn hsc hE hD hy
  go_enter Try.func135, Try.ntmps135
  go_wp2_with fail
  have hrn1 := hrn'.out.kept (World.grownBy_alloc w (.cells #[.int .u8 c.toNat, str d, .iface (pt b) y] 123) none)
  refine Calls.mono (hnext.out _ hrn1) ?_
  rintro e w1 ⟨rfl, hrn2, hgr1⟩
  have hbc0 := hrn'.out.counts.lt
  have hr0 := hrn'.out.lt
  have hbx := (hgr1.block w.heap.size (by simp) (by simp; omega)).trans (heap_alloc_new w _)
  obtain ⟨z0, z1, z2⟩ := three_cells hbx
  have hzlt : w.heap.size < w1.heap.size := by have := hgr1.size; simp at this; omega
  have hgw1 := Lib.hid (grown_trans' (World.grownBy_alloc w (.cells #[.int .u8 c.toNat, str d, .iface (pt b) y] 123) (some bc)) hgr1)
  obtain ⟨hpot, hc99⟩ := hst (varB c)
  obtain ⟨k1, k2, k3, k4, k5⟩ := nextI_spec (free := L) (v := varB c) (a := a) (by omega) 200 _ hpot hc99 (by omega)
  obtain ⟨n1, n2⟩ := cname_name (v := varB c) k5
  have hst2 : StOk L (st.put (varB c) (nextI L (varB c) 200 (st.get (varB c)) + 1)) (a + 1) := fun v => by
    by_cases e : v = varB c
    · subst e; rw [St.get_same]; exact ⟨k3, by omega⟩
    · rw [St.get_other _ _ _ _ e]; exact ⟨pot_mono (hst v).1 (by omega), (hst v).2⟩
  have hren : Hid ((P.bd (c :: d) b).ren L sc st = (.bd (cname (varB c) (nextI L (varB c) 200 (st.get (varB c)))) (b.ren L ((c :: d, cname (varB c) (nextI L (varB c) 200 (st.get (varB c)))) :: sc) (st.put (varB c) (nextI L (varB c) 200 (st.get (varB c)) + 1))).1, (b.ren L ((c :: d, cname (varB c) (nextI L (varB c) 200 (st.get (varB c)))) :: sc) (st.put (varB c) (nextI L (varB c) 200 (st.get (varB c)) + 1))).2)) := rfl
  generalize hnm : cname (varB c) (nextI L (varB c) 200 (st.get (varB c))) = nm at *
  generalize hs2 : st.put (varB c) (nextI L (varB c) 200 (st.get (varB c)) + 1) = st2 at *
  obtain ⟨cn, dn, rfl⟩ : ∃ cn dn, nm = cn :: dn := by cases nm with
    | nil => cases n1
    | cons c d => exact ⟨c, d, rfl⟩
  have hleaf := Lib.hid (fun W => leaf_any cn dn W)
  have hrn2' := Lib.hid hrn2
  rw [show nameW (cn :: dn) = nameV cn dn from rfl]
  clear hgr1 hrn1 k1 k2 k3 k4 k5 hnm hs2 hbx hrn2
  have hw1' : ∃ w1' : World, w1' = w1.alloc (.cells #[.int .u8 cn.toNat, str dn] 61) := ⟨_, rfl⟩
  obtain ⟨wA, hwA⟩ := hw1'
  have hszA : wA.heap.size = w1.heap.size + 1 := by rw [hwA]; simp
  have hA0 : wA.heap[w.heap.size]? = w1.heap[w.heap.size]? := by rw [hwA]; exact Below.heap_alloc _ _ _ hzlt
  have hA1 : wA.heap[w1.heap.size]? = some (.cells #[.int .u8 cn.toNat, str dn] 61 (0, 0)) := by rw [hwA]; exact heap_alloc_new _ _
  have hgA : w1.grownBy wA none := by rw [hwA]; exact World.grownBy_alloc _ _ _
  obtain ⟨zA, m0, m1, -, -⟩ := two_cells hA1
  have hS : Hid (∀ W' : World, W'.heap[w.heap.size]? = wA.heap[w.heap.size]? → W'.heap[w1.heap.size]? = wA.heap[w1.heap.size]? → (W'.cell? ⟨w.heap.size, 0, none⟩ = some (.int .u8 c.toNat) ∧ W'.cell? ⟨w.heap.size, 1, none⟩ = some (str d) ∧ W'.cell? ⟨w.heap.size, 2, none⟩ = some (.iface (pt b) y) ∧
      W'.cell? ⟨w1.heap.size, 0, none⟩ = some (.int .u8 cn.toNat) ∧ W'.cell? ⟨w1.heap.size, 1, none⟩ = some (str dn))) := fun W' h1 h2 =>
    ⟨(World.cell?_of_block (a := ⟨w.heap.size, 0, none⟩) (h1.trans hA0)).trans z0, (World.cell?_of_block (a := ⟨w.heap.size, 1, none⟩) (h1.trans hA0)).trans z1, (World.cell?_of_block (a := ⟨w.heap.size, 2, none⟩) (h1.trans hA0)).trans z2,
      (World.cell?_of_block (a := ⟨w1.heap.size, 0, none⟩) h2).trans m0, (World.cell?_of_block (a := ⟨w1.heap.size, 1, none⟩) h2).trans m1⟩
  have hgwA := Lib.hid (grown_trans' hgw1.out (⟨hgA.os, hgA.tape, hgA.output, hgA.size, fun k hk _ => hgA.block k hk (by simp)⟩ : w1.grownBy wA (some bc)))
  have hcall : Hid (∀ w2 : World, Below wA.drew.heap.size wA.drew w2 → Calls Try.prog (renamedFn b) #[y, .pointer (some ⟨r, 0, none⟩), .pointer (some ⟨w2.heap.size, 0, none⟩)]
      (w2.alloc (.cells #[.int .u8 c.toNat, str d, .iface (pt (.nm (cn :: dn))) (nameV cn dn), .pointer qv] 102)) (RenPost bc (b.ren L ((c :: d, cn :: dn) :: sc) st2).1 r bf L (b.ren L ((c :: d, cn :: dn) :: sc) st2).2 (w2.alloc (.cells #[.int .u8 c.toNat, str d, .iface (pt (.nm (cn :: dn))) (nameV cn dn), .pointer qv] 102)))) := by
    intro w2 hb2
    have hs2 := hb2.size
    have hsA : w.heap.size + 1 ≤ wA.heap.size := by omega
    have hgw2 : w.grownBy (w2.alloc (.cells #[.int .u8 c.toNat, str d, .iface (pt (.nm (cn :: dn))) (nameV cn dn), .pointer qv] 102)) (some bc) :=
      grown_trans' hgwA.out (grown_trans' (below_grown (below_undrew hb2) (some bc)) (World.grownBy_alloc w2 _ _))
    have hkb : ∀ g, g < w.heap.size ∧ g ≠ bc → (w2.alloc (.cells #[.int .u8 c.toNat, str d, .iface (pt (.nm (cn :: dn))) (nameV cn dn), .pointer qv] 102)).heap[g]? = w.heap[g]? := fun g hg => hgw2.block g hg.1 (by simp; exact hg.2)
    have hsz2 : w2.heap.size < (w2.alloc (.cells #[.int .u8 c.toNat, str d, .iface (pt (.nm (cn :: dn))) (nameV cn dn), .pointer qv] 102)).heap.size := by simp
    have hnew := heap_alloc_new w2 (.cells #[.int .u8 c.toNat, str d, .iface (pt (.nm (cn :: dn))) (nameV cn dn), .pointer qv] 102)
    have hs2' : wA.heap.size ≤ w2.heap.size := hs2
    refine H.out r bf bc L st2 (a + 1) ((c :: d, cn :: dn) :: sc) _ _ D (fun g => E g ∨ g = w2.heap.size) y ?_ hL (PI.keep (fun g hg => hkb g (hD'.out g hg)) (fun _ h => h) _ _ hy'.out) (fun g hg => ⟨?_, (hD'.out g hg).2⟩) ?_ ?_ ?_ hst2 (by omega)
    · exact ((hrn2'.out.kept hgA).kept (below_none (below_undrew hb2))).kept (World.grownBy_alloc w2 _ none)
    · have := (hD'.out g hg).1; omega
    · refine ⟨w2.heap.size, .pointer qv, rfl, .inr rfl, block_cells hnew 0 _ rfl, block_cells hnew 1 _ rfl, block_cells hnew 2 _ rfl, block_cells hnew 3 _ rfl, SCP.keep (fun g hg => hkb g (hE'.out g hg)) (fun g hg => .inl hg) _ _ hsc'.out⟩
    · intro g hg
      rcases hg with hg | hg
      · exact ⟨by have := (hE'.out g hg).1; omega, (hE'.out g hg).2⟩
      · subst hg; exact ⟨by omega, by omega⟩
    · intro o n hm
      rcases List.mem_cons.1 hm with e | hm
      · injection e with e1 e2; subst e1; subst e2; exact ⟨by simp, by simp⟩
      · exact hne o n hm
  rw [show (.int .u8 cn.toNat : Value) = .int .u8 cn.toNat from rfl] at m0
  have hjA : ∀ j, j = w.heap.size ∨ j = w1.heap.size → j < wA.heap.size ∧ j ≠ bc := fun j hj => by omega
  have hSb : Hid (∀ w2 : World, Below wA.drew.heap.size wA.drew w2 → (w2.cell? ⟨w.heap.size, 0, none⟩ = some (.int .u8 c.toNat) ∧ w2.cell? ⟨w.heap.size, 1, none⟩ = some (str d) ∧ w2.cell? ⟨w.heap.size, 2, none⟩ = some (.iface (pt b) y) ∧ w2.cell? ⟨w1.heap.size, 0, none⟩ = some (.int .u8 cn.toNat) ∧ w2.cell? ⟨w1.heap.size, 1, none⟩ = some (str dn))) := fun w2 h => hS.out w2 ((below_undrew h).block _ (hjA _ (.inl rfl)).1) ((below_undrew h).block _ (hjA _ (.inr rfl)).1)
  have hSa : Hid (∀ w2 : World, Below wA.drew.heap.size wA.drew w2 → ((w2.alloc (.cells #[.int .u8 c.toNat, str d, .iface (pt (.nm (cn :: dn))) (nameV cn dn), .pointer qv] 102)).cell? ⟨w.heap.size, 0, none⟩ = some (.int .u8 c.toNat) ∧ (w2.alloc (.cells #[.int .u8 c.toNat, str d, .iface (pt (.nm (cn :: dn))) (nameV cn dn), .pointer qv] 102)).cell? ⟨w.heap.size, 1, none⟩ = some (str d) ∧ (w2.alloc (.cells #[.int .u8 c.toNat, str d, .iface (pt (.nm (cn :: dn))) (nameV cn dn), .pointer qv] 102)).cell? ⟨w.heap.size, 2, none⟩ = some (.iface (pt b) y) ∧ (w2.alloc (.cells #[.int .u8 c.toNat, str d, .iface (pt (.nm (cn :: dn))) (nameV cn dn), .pointer qv] 102)).cell? ⟨w1.heap.size, 0, none⟩ = some (.int .u8 cn.toNat) ∧ (w2.alloc (.cells #[.int .u8 c.toNat, str d, .iface (pt (.nm (cn :: dn))) (nameV cn dn), .pointer qv] 102)).cell? ⟨w1.heap.size, 1, none⟩ = some (str dn))) := fun w2 h => by
    have h' := (below_undrew h).alloc (below_undrew h).size (.cells #[.int .u8 c.toNat, str d, .iface (pt (.nm (cn :: dn))) (nameV cn dn), .pointer qv] 102)
    exact hS.out _ (h'.block _ (hjA _ (.inl rfl)).1) (h'.block _ (hjA _ (.inr rfl)).1)
  have hS3 : Hid (∀ w2 w3 : World, Below wA.drew.heap.size wA.drew w2 → (w2.alloc (.cells #[.int .u8 c.toNat, str d, .iface (pt (.nm (cn :: dn))) (nameV cn dn), .pointer qv] 102)).grownBy w3 (some bc) → (w3.cell? ⟨w.heap.size, 0, none⟩ = some (.int .u8 c.toNat) ∧ w3.cell? ⟨w.heap.size, 1, none⟩ = some (str d) ∧ w3.cell? ⟨w.heap.size, 2, none⟩ = some (.iface (pt b) y) ∧ w3.cell? ⟨w1.heap.size, 0, none⟩ = some (.int .u8 cn.toNat) ∧ w3.cell? ⟨w1.heap.size, 1, none⟩ = some (str dn))) := fun w2 w3 h hg => by
    have h' := (below_undrew h).alloc (below_undrew h).size (.cells #[.int .u8 c.toNat, str d, .iface (pt (.nm (cn :: dn))) (nameV cn dn), .pointer qv] 102)
    have e : ∀ j, j = w.heap.size ∨ j = w1.heap.size → w3.heap[j]? = wA.heap[j]? := fun j hj => (hg.block j (Nat.lt_of_lt_of_le (hjA j hj).1 h'.size) (by have := (hjA j hj).2; simp; exact this)).trans (h'.block j (hjA j hj).1)
    exact hS.out _ (e _ (.inl rfl)) (e _ (.inr rfl))
  clear hrn2'
  go_wp2_with fail
  subst hwA
  go_region_held3 (fun W' => W'.cell? ⟨w.heap.size, 0, none⟩ = some (.int .u8 c.toNat) ∧ W'.cell? ⟨w.heap.size, 1, none⟩ = some (str d) ∧ W'.cell? ⟨w.heap.size, 2, none⟩ = some (.iface (pt b) y) ∧
      W'.cell? ⟨w1.heap.size, 0, none⟩ = some (.int .u8 cn.toNat) ∧ W'.cell? ⟨w1.heap.size, 1, none⟩ = some (str dn))
    (first
      | exact hS.out _ rfl rfl
      | exact hS3.out w2 w3 hb2 hgr3
      | exact hSb.out w2 hb2
      | exact hSa.out w2 hb2)
    (first
      | (go_at_call 52; refine Calls.mono (hleaf.out _) ?_; rintro e w2 ⟨rfl, hb2⟩)
      | (refine Calls.mono (hcall.out w2 hb2) ?_; rintro e w3 ⟨z, rfl, hz, hrn3, hgr3⟩))
  have hfin : Hid (RenPost bc ((P.bd (c :: d) b).ren L sc st).1 r bf L ((P.bd (c :: d) b).ren L sc st).2 w (.returned (.iface 123 (.agg #[.int .u8 cn.toNat, str dn, .iface (pt (b.ren L ((c :: d, cn :: dn) :: sc) st2).1) z]))) w3) := by
    rw [hren.out]
    have hs2 := (below_undrew hb2).size
    have hgw2 : w.grownBy (w2.alloc (.cells #[.int .u8 c.toNat, str d, .iface (pt (.nm (cn :: dn))) (nameV cn dn), .pointer qv] 102)) (some bc) :=
      grown_trans' hgwA.out (grown_trans' (below_grown (below_undrew hb2) (some bc)) (World.grownBy_alloc w2 _ _))
    refine ⟨_, rfl, ⟨cn, dn, z, rfl, rfl, hz.to (fun g hg => ⟨Nat.le_trans hgw2.size hg.1, hg.2⟩)⟩, hrn3, grown_trans' hgw2 hgr3⟩
  clear hz hrn3 hgr3
  go_wp2_with fail
  go_ret
  exact hfin.out

end Go.Proofs.Ytcdagenocmmidaa

namespace Go.Proofs.Ytcdagenocmmidaa
open Go.RowKit Go.Maps

def renL (L : List Bs) (sc : List (Bs × Bs)) : List P → St → List P × St
  | [], st => ([], st)
  | p :: ps, st => ((p.ren L sc st).1 :: (renL L sc ps (p.ren L sc st).2).1, (renL L sc ps (p.ren L sc st).2).2)
def bindersL (l : List P) : Nat := sumL (l.map P.binders)
theorem renL_snoc (L : List Bs) (sc : List (Bs × Bs)) (q : P) : ∀ (ps : List P) (st : St), renL L sc (ps ++ [q]) st = ((renL L sc ps st).1 ++ [(q.ren L sc (renL L sc ps st).2).1], (q.ren L sc (renL L sc ps st).2).2)
  | [], st => rfl
  | p :: ps, st => by rw [List.cons_append, renL, renL_snoc L sc q ps]; rfl
theorem renL_len (L : List Bs) (sc : List (Bs × Bs)) : ∀ (ps : List P) (st : St), (renL L sc ps st).1.length = ps.length
  | [], st => rfl
  | p :: ps, st => by rw [renL]; simp [renL_len L sc ps]
theorem renL_st (L : List Bs) (sc : List (Bs × Bs)) : ∀ (ps : List P) (st : St) (a : Nat), StOk L st a → a + bindersL ps + L.length ≤ 98 → StOk L (renL L sc ps st).2 (a + bindersL ps)
  | [], st, a, h, hb => h
  | p :: ps, st, a, h, hb => by
    have e : bindersL (p :: ps) = p.binders + bindersL ps := by simp [bindersL, sumL]
    rw [e] at hb ⊢
    have h1 := ren_st L p sc st a h (by omega)
    have h2 := renL_st L sc ps _ _ h1 (by omega)
    rw [renL, ← Nat.add_assoc]
    exact h2
theorem bindersL_take {l : List P} {j : Nat} {q : P} (h : l[j]? = some q) : bindersL (l.take (j + 1)) = bindersL (l.take j) + q.binders := by
  unfold bindersL
  rw [List.map_take, List.map_take]
  exact sum_take (by rw [List.getElem?_map, h]; rfl)
theorem bindersL_le (l : List P) (j : Nat) : bindersL (l.take j) ≤ bindersL l := by
  unfold bindersL
  rw [List.map_take]
  exact sum_take_le _ _

theorem prow_step2 {lo bc : Nat} {wr w1 W w2 : World} {base : Nat} {E : TypeId} {v : Value} {n m cap : Nat} {xs : List Value} {qs : List P} {q : P} {y : Value} {g : Nat}
    (hbc : bc < lo) (hwr : lo ≤ wr.heap.size) (own : wr.ownsRow base E 1 v n xs) (kids : PRow wr (fun g => New lo wr g ∧ v.ownBlock ≠ some g) qs xs)
    (hb1 : wr.grownBy w1 (some bc)) (hq : PI w1 (New wr.heap.size w1) q y) (hW : Below w1.heap.size w1 W) (hgrow : W.grownBy w2 v.ownBlock)
    (hat : v.ownBlock = some g ∨ g = W.heap.size) :
    PRow w2 (fun g' => New lo w2 g' ∧ (Value.slice (some ⟨g, 0, none⟩) m cap).ownBlock ≠ some g') (qs ++ [q]) (xs ++ [.iface (pt q) y]) := by
  have s1 := hb1.size
  have s2 := hW.size
  have s3 := hgrow.size
  refine PRow.snoc ?_ ?_
  · refine PI.keep (fun g' hg => ?_) (fun g' hg => ?_) _ _ hq
    · obtain ⟨h1, h2⟩ := hg
      rw [hgrow.block g' (by omega) (fun e => ?_), hW.block g' (by omega)]
      have := own.lt g' e.symm
      omega
    · obtain ⟨h1, h2⟩ := hg
      refine ⟨⟨by omega, by omega⟩, fun e => ?_⟩
      have e' : g = g' := by simpa [Value.ownBlock] using e
      subst e'
      rcases hat with hat | hat
      · have := own.lt g hat
        omega
      · omega
  · refine PRow.keep (fun g' hg => ?_) (fun g' hg => ?_) kids
    · obtain ⟨⟨h1, h2⟩, h3⟩ := hg
      rw [hgrow.block g' (by omega) (fun e => h3 e.symm), hW.block g' (by omega), hb1.block g' h2 (by simp; omega)]
    · obtain ⟨⟨h1, h2⟩, h3⟩ := hg
      refine ⟨⟨h1, by omega⟩, fun e => ?_⟩
      have e' : g = g' := by simpa [Value.ownBlock] using e
      subst e'
      rcases hat with hat | hat
      · exact h3 hat
      · omega

set_option maxRecDepth 100000 in
set_option maxHeartbeats 2000000 in
theorem renp_form (p : P) (h : Bs) (ks : List P) (hf : IsForm p h ks) (hk : ∀ q ∈ ks, Hid (RENP q)) (p' : P) (r bf bc : Nat) (L : List Bs) (st : St) (a : Nat) (sc : List (Bs × Bs)) (sv : Value) (w : World) (D E : Nat → Prop) (x : Value) (hrn : RN w r bf bc L st) (hL : NamesOk L) (hx : PI w D p x) (hD : ∀ g, D g → g < w.heap.size ∧ g ≠ bc)
    (hsc : SCP w E sc sv) (hE : ∀ g, E g → g < w.heap.size ∧ g ≠ bc) (hne : ScNe sc) (hst : StOk L st a) (ha : a + bindersL ks + L.length ≤ 98) (hfd : IsForm p' h (renL L sc ks st).1) :
    Calls Try.prog 155 #[x, .pointer (some ⟨r, 0, none⟩), sv] w (RenPost bc p' r bf L (renL L sc ks st).2 w) := by
  obtain ⟨g, n, rfl, hg, hc⟩ := hx.form hf
  obtain ⟨qv, rfl⟩ := hsc.ptr
  obtain ⟨i0, hi0, hz0, hz1, hz2⟩ := info_parts infoProgram
  have hgw := (hD g hg).1
  have hgne := (hD g hg).2
  have hks := hf.len
  have hk' := Lib.hid hk
  have hD' := Lib.hid hD
  have hc' := Lib.hid hc
  have hfd' := Lib.hid hfd
  have hrn' := Lib.hid hrn
  have hsc' := Lib.hid hsc
  have hE' := Lib.hid hE
  have hne' := Lib.hid hne
  have hbc0 := hrn.counts.lt
  clear hk hD hc hx hfd hrn hsc hE hne
  go_enter Try.func155, Try.ntmps155
  go_wp2_with fail
  have hw0 : ∃ w0 : World, w0 = w.alloc (.cells #[str h, .slice (some ⟨g, 0, none⟩) ks.length n] 129) := ⟨_, rfl⟩
  obtain ⟨w0, hw0⟩ := hw0
  have hsz0 : w0.heap.size = w.heap.size + 1 := by rw [hw0]; simp
  have hg0 : Hid (w.grownBy w0 none) := Lib.hid (by rw [hw0]; exact World.grownBy_alloc _ _ _)
  have hbox0 := Lib.hid (show w0.heap[w.heap.size]? = some (.cells #[str h, .slice (some ⟨g, 0, none⟩) ks.length n] 129 (0, 0)) from by rw [hw0]; exact heap_alloc_new _ _)
  have hrn0 := hrn'.out.kept hg0.out
  rw [← hw0]
  clear hw0
  go_loopw [7, 13] (fun v i wr => ∃ (j : Nat) (A1 : Option Addr) (c1 : Nat) (xs : List Value), j ≤ ks.length ∧ i = .int .i64 j ∧ v = .slice A1 j c1 ∧
      wr.ownsRow (w.heap.size + 1) 43 1 (.slice A1 j c1) j xs ∧ PRow wr (fun g => New (w.heap.size + 1) wr g ∧ (Value.slice A1 j c1).ownBlock ≠ some g) (renL L sc (ks.take j) st).1 xs ∧
      RN wr r bf bc L (renL L sc (ks.take j) st).2 ∧ w0.grownBy wr (some bc))
    (fun _ i _ => ks.length - (intOf i).toNat)
  case atStart => exact ⟨0, none, 0, [], Nat.zero_le _, rfl, rfl, World.ownsRow_nil _ _ _ _, rfl, hrn0, grown_refl' _ _⟩
  case round =>
    obtain ⟨j, A1, c1, xs, hj, rfl, rfl, own1, kids1, hrn1, hgr1⟩ := hrel
    have hs1 := hgr1.size
    have hold : Hid (∀ k, k < w.heap.size ∧ k ≠ bc → wr.heap[k]? = w.heap[k]?) := fun k hk => (hgr1.block k (by omega) (by simp; exact hk.2)).trans (hg0.out.block k hk.1 (by simp))
    by_cases hlt : j < ks.length
    · obtain ⟨q, hq⟩ : ∃ q, ks[j]? = some q := ⟨ks[j], List.getElem?_eq_getElem _⟩
      obtain ⟨y, hy, hpi⟩ := hc'.out j q hq
      have hy1 := (World.cell?_of_block (a := ⟨g, j, none⟩) (hold.out g ⟨hgw, hgne⟩)).trans hy
      have hR := hk'.out q (List.mem_of_getElem? hq)
      have mq := fun w => renamed_m hpi w
      have cq := fun x w => renamed_c q x w
      have hgr : g < wr.heap.size := by omega
      have hbt := bindersL_take hq
      have hbl := bindersL_le ks (j + 1)
      have hstj := renL_st L sc (ks.take j) st a hst (by omega)
      have hcallR := Lib.hid (hR.out r bf bc L (renL L sc (ks.take j) st).2 (a + bindersL (ks.take j)) sc (.pointer qv) wr D E y hrn1 hL (PI.keep (fun g hg => hold.out g (hD'.out g hg)) (fun _ h => h) _ _ hpi) (fun g hg => And.intro (by have := (hD'.out g hg).1; omega) (hD'.out g hg).2)
        (SCP.keep (fun g hg => hold.out g (hE'.out g hg)) (fun _ h => h) _ _ hsc'.out) (fun g hg => And.intro (by have := (hE'.out g hg).1; omega) (hE'.out g hg).2) hne'.out hstj (by omega))
      have hpref := Lib.hid (show renL L sc (ks.take (j + 1)) st = ((renL L sc (ks.take j) st).1 ++ [(q.ren L sc (renL L sc (ks.take j) st).2).1], (q.ren L sc (renL L sc (ks.take j) st).2).2) from by
        rw [List.take_add_one, hq]; exact renL_snoc L sc q (ks.take j) st)
      generalize (q.ren L sc (renL L sc (ks.take j) st).2).1 = q' at *
      generalize (q.ren L sc (renL L sc (ks.take j) st).2).2 = st' at *
      have hgr1' := Lib.hid hgr1
      have own1' := Lib.hid own1
      have kids1' := Lib.hid kids1
      clear hy hpi hq hgr1 own1 kids1 hrn1 hbt hbl hstj
      go_wp2_with fail
      refine Calls.mono hcallR.out ?_
      rintro e w4 ⟨z, rfl, hz, hrn4, hg4⟩
      have hz' := Lib.hid hz
      have hg4' := Lib.hid hg4
      have hrn4' := Lib.hid hrn4
      have own4 : Hid (w4.ownsRow (w.heap.size + 1) 43 1 (.slice A1 j c1) j xs) := Lib.hid (own1'.out.kept hg4 (by
        cases hob : (Value.slice A1 j c1).ownBlock with
        | none => exact .inl rfl
        | some k => exact .inr (fun e => by injection e with e; have := (own1'.out.lt k hob).1; omega)))
      have hs4 := hg4.size
      clear hz hg4 hrn4
      go_wp2_with (at_builtin; go_loud (refine wpList_append_lies _ rfl (.tmp 17) (.tmp 22) 127 rfl (w.heap.size + 1) 43 i0 _ 1 16 Try.underlying127 hi0 hz0 hz1 hz2 rfl (by decide) _ _ _ rfl (own4.out.alloc _) ⟨w4.heap.size, 0, none⟩ 1 1 [.iface (pt q') z] rfl rfl ?c1 ?c2 (by decide) ?c3 ?c4 ?c5 _ rfl ?_))
      case c1 => exact World.news_of_block (cs := #[.iface (pt q') z]) (heap_alloc_new _ _)
      case c2 => intro u hu; simp at hu; rw [hu]; rfl
      case c3 => unfold maxLen; omega
      case c4 => omega
      case c5 => simp; omega
      intro g2 cap w5 own5 gr5 hat hlt5
      have hrow := Lib.hid (prow_step2 (m := j + 1) (cap := cap) (show bc < w.heap.size + 1 by omega) (show w.heap.size + 1 ≤ wr.heap.size by omega) own1'.out kids1'.out hg4'.out hz'.out ((Below.refl _ _).alloc (Nat.le_refl _) (.cells #[.iface (pt q') z] 43)) gr5 (g := g2) (by rcases hat with h | h; exact .inl h; exact .inr (by rw [h]; simp)))
      have hrnA := hrn4'.out.kept (World.grownBy_alloc w4 (.cells #[.iface (pt q') z] 43) none)
      have hnob : ∀ k, k < w.heap.size + 1 → some k ≠ (Value.slice A1 j c1).ownBlock := fun k hk e => by have := (own1'.out.lt k e.symm).1; omega
      have hrlt := hrn'.out.lt
      have hflt := hrn'.out.free.lt
      have hrn5 : Hid (RN w5 r bf bc L st') := ⟨(gr5.block r (by simp; omega) (hnob r (by omega))).trans hrnA.box, hrnA.free.kept gr5 (hnob bf (by omega)), hrnA.counts.kept gr5 (hnob bc (by omega)), hrnA.ne1, hrnA.ne2⟩
      have hgr5 : Hid (w0.grownBy w5 (some bc)) := by
        have h1 := grown_trans' hgr1'.out (grown_trans' hg4'.out (World.grownBy_alloc w4 (.cells #[.iface (pt q') z] 43) (some bc)))
        exact ⟨gr5.os.trans h1.os, gr5.tape.trans h1.tape, gr5.output.trans h1.output, Nat.le_trans h1.size gr5.size, fun k hk hne => (gr5.block k (Nat.lt_of_lt_of_le hk h1.size) (hnob k (by omega))).trans (h1.block k hk hne)⟩
      have own5' := Lib.hid own5
      clear own5 gr5 hat hrnA hnob
      go_wp2_with fail
      go_roundw
      case rel => exact ⟨j + 1, some ⟨g2, 0, none⟩, cap, xs ++ [.iface (pt q') z], by omega, by go_num, rfl, own5'.out, by rw [hpref.out]; exact hrow.out, by rw [hpref.out]; exact hrn5.out, hgr5.out⟩
      case measure => simp [intOf]; omega
    · have e : j = ks.length := by omega
      subst e
      rw [List.take_of_length_le (Nat.le_refl _)] at kids1 hrn1
      obtain ⟨g2, cap, hv, hown, hlt2⟩ := own1.form (by omega)
      have hA : A1 = some ⟨g2, 0, none⟩ := by injection hv
      obtain rfl : c1 = cap := by injection hv
      subst hA
      have hg2 := (own1.lt g2 rfl).1
      have hrl := renL_len L sc ks st
      have hfin : ∀ wf : World, Below wr.heap.size wr wf → RenPost bc p' r bf L (renL L sc ks st).2 w (.returned (.iface 129 (.agg #[str h, .slice (some ⟨g2, 0, none⟩) ks.length c1]))) wf := fun wf hbf => by
        obtain ⟨hpi, hpt⟩ := PI.ofForm (w := wf) (D := New w.heap.size wf) (n := c1) hfd'.out (g := g2) ⟨by omega, Nat.lt_of_lt_of_le hlt2 hbf.size⟩ (fun i q hi => by
          obtain ⟨y, h1, h2⟩ := kids1.at_ hi
          have h3 := own1.cells (g := g2) rfl i _ h1
          have e : ({ block := g2, off := 0, spot := none } : Addr).add i = ⟨g2, i, none⟩ := by unfold Addr.add; split <;> simp_all
          rw [e] at h3
          exact ⟨y, (hbf.cell (p := ⟨g2, i, none⟩) hlt2).trans h3, (h2.below hbf (fun g hg => hg.1.2)).to (fun g hg => ⟨by have := hg.1.1; omega, Nat.lt_of_lt_of_le hg.1.2 hbf.size⟩)⟩)
        rw [hrl] at hpi
        refine ⟨_, by rw [hpt], hpi, hrn1.kept (below_none hbf), ?_⟩
        have h1 : w.grownBy w0 (some bc) := ⟨hg0.out.os, hg0.out.tape, hg0.out.output, hg0.out.size, fun k hk _ => hg0.out.block k hk (by simp)⟩
        exact grown_trans' h1 (grown_trans' hgr1 (below_grown hbf _))
      obtain ⟨z0, r0, r1, -, -⟩ := two_cells ((hgr1.block w.heap.size (by omega) (by simp; omega)).trans hbox0.out)
      have hfin' := Lib.hid hfin
      clear hfin kids1 own1 hrn1 hgr1 hv hown
      go_wp2_with fail
      go_ret
      exact hfin'.out wr (Below.refl _ _)

theorem renp_any : ∀ {p : P}, p.ok = true → RENP p
  | .nm s, _ => renp_nm s
  | .f1 h p, hk => fun r bf bc L st a sc sv w D E x hrn hL hx hD hsc hE hne hst ha => by
    rw [P.ok, Bool.and_eq_true] at hk
    have H := renp_any hk.1
    exact renp_form (.f1 h p) h [p] ⟨rfl, rfl⟩ (fun q hq => by simp at hq; subst hq; exact H) ((P.f1 h p).ren L sc st).1 r bf bc L st a sc sv w D E x hrn hL hx hD hsc hE hne hst (by simp [bindersL, sumL]; rw [P.binders] at ha; omega) ⟨rfl, rfl⟩
  | .f2 h p q, hk => fun r bf bc L st a sc sv w D E x hrn hL hx hD hsc hE hne hst ha => by
    rw [P.ok, Bool.and_eq_true, Bool.and_eq_true] at hk
    have H := renp_any hk.1.1
    have H' := renp_any hk.1.2
    exact renp_form (.f2 h p q) h [p, q] ⟨rfl, rfl⟩ (fun u hu => by simp at hu; rcases hu with rfl | rfl; exact H; exact H') ((P.f2 h p q).ren L sc st).1 r bf bc L st a sc sv w D E x hrn hL hx hD hsc hE hne hst (by simp [bindersL, sumL]; rw [P.binders] at ha; omega) ⟨rfl, rfl⟩
  | .bd s b, hk => by
    rw [P.ok, Bool.and_eq_true, Bool.and_eq_true] at hk
    exact renp_bd s b hk.1.1 (renp_any hk.1.2)

end Go.Proofs.Ytcdagenocmmidaa
