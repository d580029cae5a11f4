/- What is asked of strconv.Itoa: numbers below N are written in decimals, in every world that has the first B blocks of this one. impl.newRenamer and what a renamer is in memory. (*impl.renamer).next. -/
import Derived.Test.YtaagbnbekfogiaaGreatDoorTree
import Derived.Test.YtaagbnbekfogiaaGreatDoorMathC
import Derived.Test.YtaagbnbekfogiaaGreatDoorNameSet
import Derived.Test.YtaagbnbekfogiaaGreatDoorKind
import Derived.Test.YtaagbnbekfogiaaGreatDoorRowB
import Derived.Deep.LoopGhost
namespace Go.Proofs.YtaagbnbekfogiaaGreatDoor
set_option linter.unusedVariables false
open Go.RowKit

def ITO (N B : Nat) (w : World) : Prop := ∀ W : World, (∀ j, j < B → W.heap[j]? = w.heap[j]?) → ∀ i, i < N → Calls Tryz.prog 101 #[.int .i64 i] W fun e w' => e = .returned (str (dec i)) ∧ Below W.heap.size W w'
theorem ITO.keep {N B : Nat} {w w' : World} (h : ITO N B w) (hw : ∀ j, j < B → w'.heap[j]? = w.heap[j]?) : ITO N B w' := fun W hW i hi => h W (fun j hj => (hW j hj).trans (hw j hj)) i hi
theorem ITO.below {N B : Nat} {w w' : World} (h : ITO N B w) (hb : Below w.heap.size w w') (hB : B ≤ w.heap.size) : ITO N B w' := h.keep fun j hj => hb.block j (by omega)
theorem ITO.grown {N B : Nat} {w w' : World} {bc : Nat} (h : ITO N B w) (hg : w.grownBy w' (some bc)) (hB : B ≤ w.heap.size) (hc : B ≤ bc) : ITO N B w' := h.keep fun j hj => hg.block j (by omega) (by simp; omega)
theorem ITO.less {N B B' : Nat} {w : World} (h : ITO N B w) (hB : B ≤ B') : ITO N B' w := fun W hW i hi => h W (fun j hj => hW j (by omega)) i hi

end Go.Proofs.YtaagbnbekfogiaaGreatDoor

namespace Go.Proofs.YtaagbnbekfogiaaGreatDoor
set_option linter.unusedVariables false
open Go.RowKit Go.Maps

/-- Block b is the map of the counts. -/
def CT (w : World) (b : Nat) (st : St) : Prop := ∃ n m, n ≤ st.x + st.k ∧ w.ownsMap (H := Unit) Tryz.prog 5 (plainElem Tryz.prog 3) b n m ∧ IsMap m ∧
  m.atKey (.int .u8 120) (.lit (.int .i64 0)) = .lit (.int .i64 st.x) ∧ m.atKey (.int .u8 107) (.lit (.int .i64 0)) = .lit (.int .i64 st.k)
/-- Block r is a renamer. -/
structure RN (w : World) (r bf bc : Nat) (L : List Bs) (st : St) : Prop where
  box : w.heap[r]? = some (.cells #[.map (some bf), .map (some bc)] 120 (0, 0))
  free : FR w bf L
  counts : CT w bc st
  ne1 : bf ≠ bc
  ne2 : r ≠ bc

set_option maxRecDepth 100000 in
theorem newRenamer_any (A : Option Addr) (n c : Nat) (L : List Bs) (w : World) (hr : RowN w A n L) (hn : n ≤ 200000) (hL : ∀ x ∈ L, x ≠ [] ∧ x.length ≤ 9000) :
    Calls Tryz.prog 52 #[.slice A n c] w fun e w' => ∃ r bf bc, e = .returned (.pointer (some ⟨r, 0, none⟩)) ∧ RN w' r bf bc L ⟨0, 0⟩ ∧ w.heap.size ≤ r ∧ w.heap.size ≤ bf ∧ w.heap.size ≤ bc ∧ Below w.heap.size w w' := by
  have hmm := @run_makeMap Tryz.prog
  have hr' := Lib.hid hr
  have hl := Lib.hid hr.1
  have hL' := Lib.hid hL
  clear hr hL
  go_enter Tryz.func52, Tryz.ntmps52
  go_wp2_with fail
  have hW3 : Below w.heap.size w (((w.alloc (.map #[] 0)).alloc (.map #[] 0)).alloc (.cells #[.map (some w.heap.size), .map (some (w.heap.size + 1))] 120)) := bb_alloc (bb_alloc ((Below.refl _ _).alloc (Nat.le_refl _) _) _) _
  have hfr0 : (((w.alloc (.map #[] 0)).alloc (.map #[] 0)).alloc (.cells #[.map (some w.heap.size), .map (some (w.heap.size + 1))] 120)).ownsMap (H := Unit) Tryz.prog 41 (plainElem Tryz.prog 4) w.heap.size 0 (nmap []) := ((World.ownsMap_made w _ _ _).alloc _).alloc _
  have hct0 : CT (((w.alloc (.map #[] 0)).alloc (.map #[] 0)).alloc (.cells #[.map (some w.heap.size), .map (some (w.heap.size + 1))] 120)) (w.heap.size + 1) ⟨0, 0⟩ :=
    ⟨0, .map [], Nat.zero_le _, by
      have h := World.ownsMap_made (H := Unit) (w.alloc (.map #[] 0)) Tryz.prog 5 (plainElem Tryz.prog 3)
      rw [show (w.alloc (.map #[] 0)).heap.size = w.heap.size + 1 from by simp] at h
      exact h.alloc _, isMap_empty, rfl, rfl⟩
  have hbx0 : (((w.alloc (.map #[] 0)).alloc (.map #[] 0)).alloc (.cells #[.map (some w.heap.size), .map (some (w.heap.size + 1))] 120)).heap[w.heap.size + 2]? = some (.cells #[.map (some w.heap.size), .map (some (w.heap.size + 1))] 120 (0, 0)) := by
    have h := heap_alloc_new ((w.alloc (.map #[] 0)).alloc (.map #[] 0)) (.cells #[.map (some w.heap.size), .map (some (w.heap.size + 1))] 120)
    rw [show ((w.alloc (.map #[] 0)).alloc (.map #[] 0)).heap.size = w.heap.size + 2 from by simp] at h
    exact h
  have hsz3 : (((w.alloc (.map #[] 0)).alloc (.map #[] 0)).alloc (.cells #[.map (some w.heap.size), .map (some (w.heap.size + 1))] 120)).heap.size = w.heap.size + 3 := by simp
  generalize hw3 : (((w.alloc (.map #[] 0)).alloc (.map #[] 0)).alloc (.cells #[.map (some w.heap.size), .map (some (w.heap.size + 1))] 120)) = w3 at *
  have hct0' := Lib.hid hct0
  have hW3' := Lib.hid hW3
  clear hw3 hct0 hW3
  go_loopw [12] (fun i wr => ∃ j : Nat, j ≤ n ∧ i = .int .i64 j ∧ wr.ownsMap (H := Unit) Tryz.prog 41 (plainElem Tryz.prog 4) w.heap.size j (nmap (L.take j)) ∧ w3.grownBy wr (some w.heap.size))
    (fun i _ => n - (intOf i).toNat)
  case atStart => exact ⟨0, Nat.zero_le _, rfl, hfr0, ⟨rfl, rfl, rfl, Nat.le_refl _, fun _ _ _ => rfl⟩⟩
  case round =>
    obtain ⟨j, hj, rfl, hown, hgr⟩ := hrel
    have hbx := (hgr.block (w.heap.size + 2) (by omega) (by simp)).trans hbx0
    obtain ⟨z0, b0, b1, -, -⟩ := two_cells hbx
    have hgs := hgr.size
    by_cases hlt : j < n
    · obtain ⟨b, o, rfl, hblt, hc⟩ := hr'.out.2 (by omega)
      have l1 : j < L.length := by have := hl.out; omega
      obtain ⟨x0, x1⟩ := hc j L[j] (List.getElem?_eq_getElem l1)
      have hb3 : w3.heap[b]? = w.heap[b]? := hW3'.out.block b hblt
      have hbr : wr.heap[b]? = w.heap[b]? := (hgr.block b (by omega) (by simp; omega)).trans hb3
      have y0 := (World.cell?_of_block (a := ⟨b, o + j * 2, none⟩) hbr).trans x0
      have y1 := (World.cell?_of_block (a := ⟨b, o + j * 2 + 1, none⟩) hbr).trans x1
      have hbw : b < wr.heap.size := by omega
      have htn := hL'.out L[j] (List.getElem_mem l1)
      have htake := Lib.hid (show nmap (L.take (j + 1)) = (nmap (L.take j)).put (nkey L[j]) (.lit (.bool true)) from by rw [List.take_succ_eq_append_getElem l1, nmap_snoc])
      generalize L[j] = t at *
      obtain ⟨c0, d0, rfl⟩ : ∃ c0 d0, t = c0 :: d0 := by cases t with
        | nil => exact absurd rfl htn.1
        | cons c d => exact ⟨c, d, rfl⟩
      have hkey := keyOf_name c0 d0 (by have := htn.2; simp at this; omega)
      obtain ⟨w5, hrun, hown5, hgr5⟩ := (hown.alloc (.cells #[.int .u8 (hdI (c0 :: d0)), str (c0 :: d0).tail] 41)).drew.update keyName Tryz.underlying117 (by unfold maxLen; omega) hkey (elemBoolN true)
      have hgr' := Lib.hid (grown_trans' hgr (grown_trans' (World.grownBy_alloc wr (.cells #[.int .u8 (hdI (c0 :: d0)), str (c0 :: d0).tail] 41) _) (show (wr.alloc _).grownBy w5 (some w.heap.size) from ⟨hgr5.os, hgr5.tape, hgr5.output, hgr5.size, hgr5.block⟩)))
      have hrun' : (Instr.mapUpdate 117 (.map (some w.heap.size)) (.agg #[.int .u8 (hdI (c0 :: d0)), .string ⟨d0.toArray⟩]) (.bool true)).run Tryz.prog (wr.alloc (.cells #[.int .u8 (hdI (c0 :: d0)), .string ⟨d0.toArray⟩] 41)).drew = .ok () w5 := hrun
      have hown5' := Lib.hid hown5
      clear hrun
      clear hc x0 x1 hown hgr hown5 hgr5 hkey htn
      go_wp2_with fail
      go_region
      go_wp2_with fail
      exact ⟨⟨j + 1, by omega, by go_num, by rw [htake.out]; exact hown5'.out, hgr'.out⟩, by simp [intOf]; omega⟩
    · have hfin : Hid (RN wr (w.heap.size + 2) w.heap.size (w.heap.size + 1) L ⟨0, 0⟩ ∧ Below w.heap.size w wr) := by
        rw [List.take_of_length_le (by have := hl.out; omega)] at hown
        refine ⟨⟨hbx, ⟨j, hown⟩, ?_, by omega, by omega⟩, hW3'.out.grown hgr (by omega) (fun k hk => by injection hk with hk; omega)⟩
        obtain ⟨k, m, h1, h2, h3, h4, h5⟩ := hct0'.out
        exact ⟨k, m, h1, h2.kept hgr (by simp), h3, h4, h5⟩
      clear hown hgr
      go_wp2_with fail
      go_ret
      exact ⟨_, _, _, rfl, hfin.out.1, by omega, Nat.le_refl _, by omega, hfin.out.2⟩

end Go.Proofs.YtaagbnbekfogiaaGreatDoor

namespace Go.Proofs.YtaagbnbekfogiaaGreatDoor
set_option linter.unusedVariables false
open Go.RowKit Go.Maps
set_option maxRecDepth 100000

/-- The world W is w but for block b and what is new. -/
structure SG (w : World) (b : Nat) (W : World) : Prop where
  grown : w.grownBy W (some b)
theorem CT.look {w : World} {b : Nat} {st : St} (h : CT w b st) (v : Bool) :
    (Instr.lookup 118 (.map (some b)) (.int .u8 (if v then 120 else 107)) false).run Tryz.prog w = .ok (.int .i64 (st.get v)) w := by
  obtain ⟨n, m, -, h, -, h1, h2⟩ := h
  cases v
  · obtain ⟨c, hrun, hv, -⟩ := h.lookup_int (int_keyed Tryz.underlying5) Tryz.underlying118 Tryz.underlying3 (by kernel_rfl) (keyOf_int_mk Tryz.underlying5 (a := 107) (by decide))
    rw [h2] at hv
    injection hv with hv; injection hv with _ hv
    rw [← hv] at hrun
    exact hrun
  · obtain ⟨c, hrun, hv, -⟩ := h.lookup_int (int_keyed Tryz.underlying5) Tryz.underlying118 Tryz.underlying3 (by kernel_rfl) (keyOf_int_mk Tryz.underlying5 (a := 120) (by decide))
    rw [h1] at hv
    injection hv with hv; injection hv with _ hv
    rw [← hv] at hrun
    exact hrun

theorem CT.kept {w w' : World} {b : Nat} {st : St} (h : CT w b st) {row : Option Nat} (hg : w.grownBy w' row) (hne : some b ≠ row) : CT w' b st := by
  obtain ⟨n, m, h0, h, h1, h2, h3⟩ := h
  exact ⟨n, m, h0, h.kept hg hne, h1, h2, h3⟩
theorem CT.lt {w : World} {b : Nat} {st : St} (h : CT w b st) : b < w.heap.size := by
  obtain ⟨n, m, h0, h, _⟩ := h
  exact h.lt
theorem RN.lt {w : World} {r bf bc : Nat} {L : List Bs} {st : St} (h : RN w r bf bc L st) : r < w.heap.size := (two_cells h.box).1
theorem RN.kept {w w' : World} {r bf bc : Nat} {L : List Bs} {st : St} (h : RN w r bf bc L st) (hg : w.grownBy w' none) : RN w' r bf bc L st :=
  ⟨(hg.block r h.lt (by simp)).trans h.box, h.free.kept hg (by simp), h.counts.kept hg (by simp), h.ne1, h.ne2⟩
/-- One count is raised. -/
theorem CT.up {w : World} {b : Nat} {st : St} (h : CT w b st) (v : Bool) (hb : st.x + st.k ≤ 2000000) :
    ∃ w', (Instr.mapUpdate 118 (.map (some b)) (.int .u8 (if v then 120 else 107)) (.int .i64 ((st.get v : Int) + 1))).run Tryz.prog w = .ok () w' ∧ CT w' b (st.put v (st.get v + 1)) ∧ w.grownBy w' (some b) := by
  obtain ⟨n, m, h0, h, hm, h1, h2⟩ := h
  have hel : plainElem (H := Unit) Tryz.prog 3 (.int .i64 ((st.get v : Int) + 1)) = some (.lit (.int .i64 ((st.get v : Int) + 1)), []) := by
    refine plainElem_int Tryz.underlying3 ?_
    have hg : st.get v ≤ 2000000 := by unfold St.get; split <;> omega
    simp [Lit.wf, IntKind.min, IntKind.max, IntKind.bits, IntKind.signed]
    omega
  cases v
  · obtain ⟨w', hrun, hown, hgr⟩ := h.update (int_keyed Tryz.underlying5) Tryz.underlying118 (by unfold maxLen; omega) (keyOf_int_mk Tryz.underlying5 (a := 107) (by decide)) hel
    refine ⟨w', hrun, ⟨n + 1, _, ?_, hown, hm.put _ _, ?_, ?_⟩, hgr⟩
    · simp [St.put, St.get]; omega
    · rw [atKey_put_other (by simp), h1]; rfl
    · rw [atKey_put_same hm (by exact True.intro)]; simp [St.put, St.get]
  · obtain ⟨w', hrun, hown, hgr⟩ := h.update (int_keyed Tryz.underlying5) Tryz.underlying118 (by unfold maxLen; omega) (keyOf_int_mk Tryz.underlying5 (a := 120) (by decide)) hel
    refine ⟨w', hrun, ⟨n + 1, _, ?_, hown, hm.put _ _, ?_, ?_⟩, hgr⟩
    · simp [St.put, St.get]; omega
    · rw [atKey_put_same hm (by exact True.intro)]; simp [St.put, St.get]
    · rw [atKey_put_other (by simp), h2]; rfl

theorem RN.drewed {w : World} {r bf bc : Nat} {L : List Bs} {st : St} (h : RN w r bf bc L st) : RN w.drew r bf bc L st := ⟨h.box, h.free, h.counts, h.ne1, h.ne2⟩
theorem grown_drew {w w' : World} {row : Option Nat} (h : w.grownBy w' row) : w.grownBy w'.drew row := ⟨h.os, h.tape, h.output, h.size, h.block⟩
theorem grown_sets (w : World) (b : Nat) (u v : Value) : w.grownBy ((w.setCell ⟨b, 0, none⟩ u).setCell ⟨b, 1, none⟩ v) (some b) :=
  ⟨rfl, rfl, rfl, by simp, fun j _ hne => same_set w b u v j (fun e => hne (by rw [e]))⟩
theorem RN.kept2 {w w' : World} {r bf bc q : Nat} {L : List Bs} {st : St} (h : RN w r bf bc L st) (hg : w.grownBy w' (some q)) (h1 : r ≠ q) (h2 : bf ≠ q) (h3 : bc ≠ q) : RN w' r bf bc L st :=
  ⟨(hg.block r h.lt (by simp; exact h1)).trans h.box, h.free.kept hg (by simp; exact h2), h.counts.kept hg (by simp; exact h3), h.ne1, h.ne2⟩
theorem St.put_get (st : St) (v : Bool) : st.put v (st.get v) = st := by cases v <;> rfl
/-- The first letter of canonical names. -/
abbrev firstL (v : Bool) : Int := if v then 120 else 107
theorem CT.look' {w : World} {b : Nat} {st : St} (h : CT w b st) (v : Bool) : (Instr.lookup 118 (.map (some b)) (.int .u8 (firstL v)) false).run Tryz.prog w = .ok (.int .i64 (st.get v)) w := h.look v

/-- What a round of next finds behind strconv.Itoa. -/
theorem next_facts (v : Bool) {wr W2 : World} {r bf bc : Nat} {L : List Bs} {st : St} {k : Nat} (hrn : RN wr r bf bc L (st.put v k)) (hL : ∀ x ∈ L, x ≠ [] ∧ x.length ≤ 9000) (hsum : (st.put v k).x + (st.put v k).k ≤ 2000000) (hk : k < 1000000) (hb : Below wr.heap.size wr W2) :
    ∃ w5, (Instr.lookup 118 (.map (some bc)) (.int .u8 (firstL v)) false).run Tryz.prog (W2.alloc (.cells #[.int .u8 (firstL v), .string ⟨(dec k).toArray⟩] 41)) = .ok (.int .i64 k) (W2.alloc (.cells #[.int .u8 (firstL v), .string ⟨(dec k).toArray⟩] 41)) ∧
      (Instr.mapUpdate 118 (.map (some bc)) (.int .u8 (firstL v)) (.int .i64 ((k : Int) + 1))).run Tryz.prog (W2.alloc (.cells #[.int .u8 (firstL v), .string ⟨(dec k).toArray⟩] 41)) = .ok () w5 ∧
      (r < W2.heap.size ∧ W2.cell? ⟨r, 0, none⟩ = some (.map (some bf)) ∧ W2.cell? ⟨r, 1, none⟩ = some (.map (some bc))) ∧ (r < w5.heap.size ∧ w5.cell? ⟨r, 0, none⟩ = some (.map (some bf)) ∧ w5.cell? ⟨r, 1, none⟩ = some (.map (some bc))) ∧
      (W2.heap.size < w5.heap.size ∧ w5.cell? ⟨W2.heap.size, 0, none⟩ = some (.int .u8 (firstL v)) ∧ w5.cell? ⟨W2.heap.size, 1, none⟩ = some (.string ⟨(dec k).toArray⟩)) ∧
      (Instr.lookup 117 (.map (some bf)) (.agg #[.int .u8 (firstL v), .string ⟨(dec k).toArray⟩]) false).run Tryz.prog w5.drew = .ok (.bool (decide (cname v k ∈ L))) w5.drew ∧
      Hid (RN w5 r bf bc L (st.put v (k + 1))) ∧ Hid (wr.grownBy w5 (some bc)) := by
  have h2 := hrn.kept (below_grown hb none)
  have h1 := h2.kept (World.grownBy_alloc W2 (.cells #[.int .u8 (firstL v), .string ⟨(dec k).toArray⟩] 41) none)
  have hk1 := h1.counts.look' v
  rw [St.get_same] at hk1
  obtain ⟨w5, hup, hct5, hgr5⟩ := h1.counts.up v hsum
  rw [St.get_same] at hup hct5
  rw [show (st.put v k).put v (k + 1) = st.put v (k + 1) from by cases v <;> rfl] at hct5
  obtain ⟨zr, r0, r1, -, -⟩ := two_cells h2.box
  have hbcl := h2.counts.lt
  have hgrA := grown_trans' (World.grownBy_alloc W2 (.cells #[.int .u8 (firstL v), .string ⟨(dec k).toArray⟩] 41) (some bc)) hgr5
  have hbox5 := (hgrA.block r zr (fun e => hrn.ne2 (by injection e))).trans h2.box
  obtain ⟨z5, d0, d1, -, -⟩ := two_cells hbox5
  have hn5 := (hgr5.block W2.heap.size (by simp) (by simp; omega)).trans (heap_alloc_new W2 _)
  obtain ⟨zn, n0, n1, -, -⟩ := two_cells hn5
  have hfr5 : FR w5 bf L := h1.free.kept hgr5 (by simp; exact hrn.ne1)
  have hdl := dec_len 5 k (by simpa using hk)
  refine ⟨w5, hk1, hup, ⟨zr, r0, r1⟩, ⟨z5, d0, d1⟩, ⟨zn, n0, n1⟩, ?_, ⟨hbox5, hfr5, hct5, hrn.ne1, hrn.ne2⟩, grown_trans' (below_grown hb (some bc)) hgrA⟩
  cases v
  · exact FR.look (w := w5.drew) hfr5 hL 107 (dec k) (by omega)
  · exact FR.look (w := w5.drew) hfr5 hL 120 (dec k) (by omega)

theorem St.put_le {st : St} {v : Bool} {k m : Nat} (h1 : ∀ u, st.get u ≤ m) (h2 : k ≤ m) : (st.put v k).x + (st.put v k).k ≤ 2 * m := by
  have a := h1 true
  have b := h1 false
  cases v <;> simp [St.put, St.get] at * <;> omega

theorem nxt_skip {L : List Bs} {v : Bool} {c k : Nat} (h : k ≤ nxt L v c) (hm : cname v k ∈ L) : k + 1 ≤ nxt L v c := by
  have := (nxt_least L v c).1
  rcases Nat.lt_or_eq_of_le h with h | h
  · exact h
  · subst h; exact absurd hm this
theorem nxt_hit {L : List Bs} {v : Bool} {c k : Nat} (h : k ≤ nxt L v c) (hc : c ≤ k) (hm : cname v k ∉ L) : nxt L v c = k := by
  obtain ⟨-, -, h3⟩ := nxt_least L v c
  rcases Nat.lt_or_eq_of_le h with h | h
  · exact absurd (h3 k hc h) hm
  · exact h.symm

theorem next_any (r bf bc : Nat) (L : List Bs) (st : St) (a : Nat) (c : UInt8) (d : Bs) (w : World) {N B : Nat} (hit : ITO N B w) (hB : B ≤ bc) (hBw : B ≤ w.heap.size) (hN : N ≤ 1000000) (h : RN w r bf bc L st) (hL : ∀ x ∈ L, x ≠ [] ∧ x.length ≤ 9000) (hst : StOk L st a) (ha : a + L.length < N) :
    Calls Tryz.prog 82 #[.pointer (some ⟨r, 0, none⟩), nameV c d] w fun e w' =>
      e = .returned (nameW (cname (varB c) (nxt L (varB c) (st.get (varB c))))) ∧ RN w' r bf bc L (st.put (varB c) (nxt L (varB c) (st.get (varB c)) + 1)) ∧ w.grownBy w' (some bc) := by
  have hv := Lib.hid (fun W => isVariable_any c d W)
  have h' := Lib.hid h
  have hgv : ∀ u, st.get u ≤ a + L.length := fun u => pot_lt (hst u)
  have hm := (nxt_pot (hst (varB c))).1
  have hle := (nxt_least L (varB c) (st.get (varB c))).2.1
  have hL' := Lib.hid hL
  have hgv' := Lib.hid hgv
  clear h hst hL hgv
  generalize varB c = v at *
  have hbc0 := h'.out.counts.lt
  have hr0 := h'.out.lt
  have hf0 := h'.out.free.lt
  have hit' := Lib.hid hit
  clear hit
  cases v
  · have e1 : ∀ h, (⟨#[107, 108, 109]⟩ : ByteArray)[0]'h = 107 := fun _ => rfl
    have e2 : ((107 : UInt8).toNat : Int) = 107 := rfl
    go_enter Tryz.func82, Tryz.ntmps82
    go_wp2_with fail
    refine Calls.mono (hv.out _) ?_
    rintro e w1 ⟨rfl, hb1⟩
    have hb1' := Lib.hid (below_step (by repeat (with_reducible first | exact hbel | exact Below.refl _ _ | refine Below.drew ?_ | refine Below.drewN ?_ _ | refine Below.alloc ?_ (by first | (simp; done) | (simp; omega) | omega | (have := Below.size hbel; simp; omega) | (have := Below.size hbel; omega)) _ | refine Below.setCell ?_ (by first | (simp; done) | (simp; omega) | omega) _)) (by simp) hb1 : Below w.heap.size w w1)
    have hres := Lib.hid ((hb1.block (w.heap.size + 1) (by simp)).trans (second_alloc w _ _))
    have hs1 : w.heap.size + 2 ≤ w1.heap.size := by have := hb1.size; simp at this; omega
    clear hb1
    go_wp2_with fail
    go_loopg [6] (nxt L false (st.get false)) (fun f _ wr => ∃ k : Nat, st.get false ≤ k ∧ k ≤ nxt L false (st.get false) ∧ nxt L false (st.get false) ≤ k + f ∧ RN wr r bf bc L (st.put false k) ∧ w1.grownBy wr (some bc))
    case atStart => exact ⟨st.get false, Nat.le_refl _, hle, by omega, by rw [St.put_get]; exact h'.out.kept (below_grown hb1'.out none), grown_refl' _ _⟩
    case round =>
      obtain ⟨k, hk1, hk2, hk3, hrn, hgr⟩ := hrel
      obtain ⟨z0, b0, b1, -, -⟩ := two_cells hrn.box
      have hk0 : (Instr.lookup 118 (.map (some bc)) (.int .u8 107) false).run Tryz.prog wr = .ok (.int .i64 k) wr := by
        have h := hrn.counts.look false
        rw [St.get_same] at h
        exact h
      have hgw := grown_trans' (below_grown hb1'.out (some bc)) hgr
      have hcall := Lib.hid (hit'.out wr (fun j hj => hgw.block j (by omega) (by simp; omega)) k (by omega))
      have hfac := Lib.hid (fun W2 hb => next_facts false (W2 := W2) hrn hL'.out (Nat.le_trans (St.put_le hgv'.out (show k ≤ a + L.length by omega)) (by omega)) (by omega) hb)
      have hgs := hgr.size
      have hres5 := Lib.hid (fun w5 (h5 : wr.grownBy w5 (some bc)) => two_cells ((h5.block (w.heap.size + 1) (by omega) (by simp; omega)).trans ((hgr.block (w.heap.size + 1) (by omega) (by simp; omega)).trans hres.out)))
      have hgr' := Lib.hid hgr
      have hhit := Lib.hid (nxt_hit hk2 hk1)
      have hskip := Lib.hid (nxt_skip hk2)
      clear hrn hgr hgw
      cases hin : decide (cname false k ∈ L)
      · have hIk := Lib.hid (hhit.out (of_decide_eq_false hin))
        have hin' := Lib.hid hin
        clear hin
        go_wp2_with (go_at_call 101; refine Calls.mono hcall.out ?_; rintro e w2 ⟨rfl, hb2⟩; obtain ⟨w5, f1, f2, ⟨z2, r0, r1⟩, ⟨z5, s0, s1⟩, ⟨zn, n0, n1⟩, f3, f4, f5⟩ := hfac.out w2 hb2; simp only [firstL, Bool.false_eq_true, if_false] at f1 f2 n0 f3; rw [hin'.out] at f3; obtain ⟨zr, p0, p1, g0, g1⟩ := hres5.out w5 f5.out; have hb2' := Lib.hid hb2; clear hb2)
        go_region
        go_wp2_with fail
        refine bodyPost_ret (v := .agg #[.int .u8 107, .string ⟨(dec k).toArray⟩]) (by simp [results, Tryz.results82, go_sem, p0, p1]) rfl ?_
        rw [hIk.out]
        have hgs := grown_sets w5 (w.heap.size + 1) (.int .u8 107) (.string ⟨(dec k).toArray⟩)
        refine ⟨rfl, (f4.out.kept2 hgs (by omega) (by omega) (by omega)).drewed, ?_⟩
        have h1 := grown_trans' (below_grown hb1'.out (some bc)) (grown_trans' hgr'.out f5.out)
        exact grown_drew ⟨hgs.os.trans h1.os, hgs.tape.trans h1.tape, hgs.output.trans h1.output, Nat.le_trans h1.size hgs.size, fun j hj hne => (hgs.block j (Nat.lt_of_lt_of_le hj h1.size) (by simp; omega)).trans (h1.block j hj hne)⟩
      · have hsk := hskip.out (of_decide_eq_true hin)
        obtain ⟨f', rfl⟩ : ∃ f', gk = f' + 1 := by
          cases gk with
          | zero => exfalso; omega
          | succ f => exact ⟨f, rfl⟩
        have hin' := Lib.hid hin
        clear hin
        go_wp2_with (go_at_call 101; refine Calls.mono hcall.out ?_; rintro e w2 ⟨rfl, hb2⟩; obtain ⟨w5, f1, f2, ⟨z2, r0, r1⟩, ⟨z5, s0, s1⟩, ⟨zn, n0, n1⟩, f3, f4, f5⟩ := hfac.out w2 hb2; simp only [firstL, Bool.false_eq_true, if_false] at f1 f2 n0 f3; rw [hin'.out] at f3; have hb2' := Lib.hid hb2; clear hb2)
        go_region
        go_wp2_with fail
        go_roundg f'
        case measure => omega
        case rel => exact ⟨k + 1, by omega, hsk, by omega, f4.out.drewed, grown_drew (grown_trans' hgr'.out f5.out)⟩
  · have e1 : ∀ h, (⟨#[120, 121, 122]⟩ : ByteArray)[0]'h = 120 := fun _ => rfl
    have e2 : ((120 : UInt8).toNat : Int) = 120 := rfl
    go_enter Tryz.func82, Tryz.ntmps82
    go_wp2_with fail
    refine Calls.mono (hv.out _) ?_
    rintro e w1 ⟨rfl, hb1⟩
    have hb1' := Lib.hid (below_step (by repeat (with_reducible first | exact hbel | exact Below.refl _ _ | refine Below.drew ?_ | refine Below.drewN ?_ _ | refine Below.alloc ?_ (by first | (simp; done) | (simp; omega) | omega | (have := Below.size hbel; simp; omega) | (have := Below.size hbel; omega)) _ | refine Below.setCell ?_ (by first | (simp; done) | (simp; omega) | omega) _)) (by simp) hb1 : Below w.heap.size w w1)
    have hres := Lib.hid ((hb1.block (w.heap.size + 1) (by simp)).trans (second_alloc w _ _))
    have hs1 : w.heap.size + 2 ≤ w1.heap.size := by have := hb1.size; simp at this; omega
    clear hb1
    go_wp2_with fail
    go_loopg [6] (nxt L true (st.get true)) (fun f _ wr => ∃ k : Nat, st.get true ≤ k ∧ k ≤ nxt L true (st.get true) ∧ nxt L true (st.get true) ≤ k + f ∧ RN wr r bf bc L (st.put true k) ∧ w1.grownBy wr (some bc))
    case atStart => exact ⟨st.get true, Nat.le_refl _, hle, by omega, by rw [St.put_get]; exact h'.out.kept (below_grown hb1'.out none), grown_refl' _ _⟩
    case round =>
      obtain ⟨k, hk1, hk2, hk3, hrn, hgr⟩ := hrel
      obtain ⟨z0, b0, b1, -, -⟩ := two_cells hrn.box
      have hk0 : (Instr.lookup 118 (.map (some bc)) (.int .u8 120) false).run Tryz.prog wr = .ok (.int .i64 k) wr := by
        have h := hrn.counts.look true
        rw [St.get_same] at h
        exact h
      have hgw := grown_trans' (below_grown hb1'.out (some bc)) hgr
      have hcall := Lib.hid (hit'.out wr (fun j hj => hgw.block j (by omega) (by simp; omega)) k (by omega))
      have hfac := Lib.hid (fun W2 hb => next_facts true (W2 := W2) hrn hL'.out (Nat.le_trans (St.put_le hgv'.out (show k ≤ a + L.length by omega)) (by omega)) (by omega) hb)
      have hgs := hgr.size
      have hres5 := Lib.hid (fun w5 (h5 : wr.grownBy w5 (some bc)) => two_cells ((h5.block (w.heap.size + 1) (by omega) (by simp; omega)).trans ((hgr.block (w.heap.size + 1) (by omega) (by simp; omega)).trans hres.out)))
      have hgr' := Lib.hid hgr
      have hhit := Lib.hid (nxt_hit hk2 hk1)
      have hskip := Lib.hid (nxt_skip hk2)
      clear hrn hgr hgw
      cases hin : decide (cname true k ∈ L)
      · have hIk := Lib.hid (hhit.out (of_decide_eq_false hin))
        have hin' := Lib.hid hin
        clear hin
        go_wp2_with (go_at_call 101; refine Calls.mono hcall.out ?_; rintro e w2 ⟨rfl, hb2⟩; obtain ⟨w5, f1, f2, ⟨z2, r0, r1⟩, ⟨z5, s0, s1⟩, ⟨zn, n0, n1⟩, f3, f4, f5⟩ := hfac.out w2 hb2; simp only [firstL, if_true] at f1 f2 n0 f3; rw [hin'.out] at f3; obtain ⟨zr, p0, p1, g0, g1⟩ := hres5.out w5 f5.out; have hb2' := Lib.hid hb2; clear hb2)
        go_region
        go_wp2_with fail
        refine bodyPost_ret (v := .agg #[.int .u8 120, .string ⟨(dec k).toArray⟩]) (by simp [results, Tryz.results82, go_sem, p0, p1]) rfl ?_
        rw [hIk.out]
        have hgs := grown_sets w5 (w.heap.size + 1) (.int .u8 120) (.string ⟨(dec k).toArray⟩)
        refine ⟨rfl, (f4.out.kept2 hgs (by omega) (by omega) (by omega)).drewed, ?_⟩
        have h1 := grown_trans' (below_grown hb1'.out (some bc)) (grown_trans' hgr'.out f5.out)
        exact grown_drew ⟨hgs.os.trans h1.os, hgs.tape.trans h1.tape, hgs.output.trans h1.output, Nat.le_trans h1.size hgs.size, fun j hj hne => (hgs.block j (Nat.lt_of_lt_of_le hj h1.size) (by simp; omega)).trans (h1.block j hj hne)⟩
      · have hsk := hskip.out (of_decide_eq_true hin)
        obtain ⟨f', rfl⟩ : ∃ f', gk = f' + 1 := by
          cases gk with
          | zero => exfalso; omega
          | succ f => exact ⟨f, rfl⟩
        have hin' := Lib.hid hin
        clear hin
        go_wp2_with (go_at_call 101; refine Calls.mono hcall.out ?_; rintro e w2 ⟨rfl, hb2⟩; obtain ⟨w5, f1, f2, ⟨z2, r0, r1⟩, ⟨z5, s0, s1⟩, ⟨zn, n0, n1⟩, f3, f4, f5⟩ := hfac.out w2 hb2; simp only [firstL, if_true] at f1 f2 n0 f3; rw [hin'.out] at f3; have hb2' := Lib.hid hb2; clear hb2)
        go_region
        go_wp2_with fail
        go_roundg f'
        case measure => omega
        case rel => exact ⟨k + 1, by omega, hsk, by omega, f4.out.drewed, grown_drew (grown_trans' hgr'.out f5.out)⟩

end Go.Proofs.YtaagbnbekfogiaaGreatDoor
