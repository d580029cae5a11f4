/- impl.newRenamer and what a renamer is in memory. (*impl.renamer).next. -/
import Derived.Test.YtcdagenocmmidaaItoa
import Derived.Test.YtcdagenocmmidaaHas
import Derived.Deep.LoopGhost
namespace Go.Proofs.Ytcdagenocmmidaa
set_option linter.unusedVariables false
open Go.RowKit Go.Maps

theorem elemBoolN (x : Bool) : plainElem (H := Unit) Try.prog 4 (.bool x) = some (.lit (.bool x), []) := plainElem_bool Try.underlying4 x
/-- A set of names. -/
def nmap (L : List Bs) : DataW Unit := setOf (.lit (.bool true)) (L.map nkey)
theorem nmap_snoc (L : List Bs) (s : Bs) : nmap (L ++ [s]) = (nmap L).put (nkey s) (.lit (.bool true)) := by
  unfold nmap
  rw [List.map_append]
  exact setOf_snoc _ _ _
theorem nmap_isMap (L : List Bs) : IsMap (nmap L) := by
  unfold nmap setOf
  generalize L.map nkey = ks
  have : ∀ (ks : List Lit) (m : DataW Unit), IsMap m → IsMap (ks.foldl (fun m x => m.put x (.lit (.bool true))) m) := by
    intro ks
    induction ks with
    | nil => intro m h; exact h
    | cons k ks ih => intro m h; exact ih _ (h.put _ _)
  exact this ks _ isMap_empty
theorem nmap_at {s : Bs} (hs : s ≠ []) (hs4 : s.length ≤ 9000) (L : List Bs) (hL : ∀ x ∈ L, x ≠ [] ∧ x.length ≤ 9000) : (nmap L).atKey (nkey s) (.lit (.bool false)) = .lit (.bool (decide (s ∈ L))) := by
  have : ∀ R : List Bs, (∀ x ∈ R, x ≠ [] ∧ x.length ≤ 9000) → (nmap R.reverse).atKey (nkey s) (.lit (.bool false)) = .lit (.bool (decide (s ∈ R.reverse))) := by
    intro R
    induction R with
    | nil => intro _; rfl
    | cons t R ih =>
      intro hR
      rw [List.reverse_cons, nmap_snoc]
      by_cases h : t = s
      · subst h
        rw [atKey_put_same (nmap_isMap _) (by exact True.intro)]
        simp
      · have ht := hR t (by simp)
        rw [atKey_put_other (by intro e; exact h (nkey_inj hs ht.1 hs4 ht.2 e).symm), ih (fun x hx => hR x (List.mem_cons_of_mem _ hx))]
        simp [Ne.symm h]
  have h := this L.reverse (fun x hx => hL x (List.mem_reverse.1 hx))
  rwa [List.reverse_reverse] at h

/-- Block b is the map of just these names. -/
def FR (w : World) (b : Nat) (L : List Bs) : Prop := ∃ n, w.ownsMap (H := Unit) Try.prog 61 (plainElem Try.prog 4) b n (nmap L)
/-- Block b is the map of the counts. -/
def CT (w : World) (b : Nat) (st : St) : Prop := ∃ n m, n ≤ st.x + st.k ∧ w.ownsMap (H := Unit) Try.prog 5 (plainElem Try.prog 3) b n m ∧ IsMap m ∧
  m.atKey (.int .u8 120) (.lit (.int .i64 0)) = .lit (.int .i64 st.x) ∧ m.atKey (.int .u8 107) (.lit (.int .i64 0)) = .lit (.int .i64 st.k)
/-- Block r is a renamer. -/
structure RN (w : World) (r bf bc : Nat) (L : List Bs) (st : St) : Prop where
  box : w.heap[r]? = some (.cells #[.map (some bf), .map (some bc)] 113 (0, 0))
  free : FR w bf L
  counts : CT w bc st
  ne1 : bf ≠ bc
  ne2 : r ≠ bc

set_option maxRecDepth 100000 in
theorem newRenamer_any (A : Option Addr) (n c : Nat) (L : List Bs) (w : World) (hr : RowN w A n L) (hn : n ≤ 10000) (hL : ∀ x ∈ L, x ≠ [] ∧ x.length ≤ 9000) :
    Calls Try.prog 66 #[.slice A n c] w fun e w' => ∃ r bf bc, e = .returned (.pointer (some ⟨r, 0, none⟩)) ∧ RN w' r bf bc L ⟨0, 0⟩ ∧ w.heap.size ≤ r ∧ w.heap.size ≤ bf ∧ w.heap.size ≤ bc ∧ Below w.heap.size w w' := by
  have hmm := @run_makeMap Try.prog
  have hr' := Lib.hid hr
  have hl := Lib.hid hr.1
  have hL' := Lib.hid hL
  clear hr hL
  go_enter Try.func66, Try.ntmps66
  go_wp2_with fail
  have hW3 : Below w.heap.size w (((w.alloc (.map #[] 0)).alloc (.map #[] 0)).alloc (.cells #[.map (some w.heap.size), .map (some (w.heap.size + 1))] 113)) := bb_alloc (bb_alloc ((Below.refl _ _).alloc (Nat.le_refl _) _) _) _
  have hfr0 : (((w.alloc (.map #[] 0)).alloc (.map #[] 0)).alloc (.cells #[.map (some w.heap.size), .map (some (w.heap.size + 1))] 113)).ownsMap (H := Unit) Try.prog 61 (plainElem Try.prog 4) w.heap.size 0 (nmap []) := ((World.ownsMap_made w _ _ _).alloc _).alloc _
  have hct0 : CT (((w.alloc (.map #[] 0)).alloc (.map #[] 0)).alloc (.cells #[.map (some w.heap.size), .map (some (w.heap.size + 1))] 113)) (w.heap.size + 1) ⟨0, 0⟩ :=
    ⟨0, .map [], Nat.zero_le _, by
      have h := World.ownsMap_made (H := Unit) (w.alloc (.map #[] 0)) Try.prog 5 (plainElem Try.prog 3)
      rw [show (w.alloc (.map #[] 0)).heap.size = w.heap.size + 1 from by simp] at h
      exact h.alloc _, isMap_empty, rfl, rfl⟩
  have hbx0 : (((w.alloc (.map #[] 0)).alloc (.map #[] 0)).alloc (.cells #[.map (some w.heap.size), .map (some (w.heap.size + 1))] 113)).heap[w.heap.size + 2]? = some (.cells #[.map (some w.heap.size), .map (some (w.heap.size + 1))] 113 (0, 0)) := by
    have h := heap_alloc_new ((w.alloc (.map #[] 0)).alloc (.map #[] 0)) (.cells #[.map (some w.heap.size), .map (some (w.heap.size + 1))] 113)
    rw [show ((w.alloc (.map #[] 0)).alloc (.map #[] 0)).heap.size = w.heap.size + 2 from by simp] at h
    exact h
  have hsz3 : (((w.alloc (.map #[] 0)).alloc (.map #[] 0)).alloc (.cells #[.map (some w.heap.size), .map (some (w.heap.size + 1))] 113)).heap.size = w.heap.size + 3 := by simp
  generalize hw3 : (((w.alloc (.map #[] 0)).alloc (.map #[] 0)).alloc (.cells #[.map (some w.heap.size), .map (some (w.heap.size + 1))] 113)) = w3 at *
  have hct0' := Lib.hid hct0
  have hW3' := Lib.hid hW3
  clear hw3 hct0 hW3
  go_loopw [12] (fun i wr => ∃ j : Nat, j ≤ n ∧ i = .int .i64 j ∧ wr.ownsMap (H := Unit) Try.prog 61 (plainElem Try.prog 4) w.heap.size j (nmap (L.take j)) ∧ w3.grownBy wr (some w.heap.size))
    (fun i _ => n - (intOf i).toNat)
  case atStart => exact ⟨0, Nat.zero_le _, rfl, hfr0, ⟨rfl, rfl, rfl, Nat.le_refl _, fun _ _ _ => rfl⟩⟩
  case round =>
    obtain ⟨j, hj, rfl, hown, hgr⟩ := hrel
    have hbx := (hgr.block (w.heap.size + 2) (by omega) (by simp)).trans hbx0
    obtain ⟨z0, b0, b1, -, -⟩ := two_cells hbx
    have hgs := hgr.size
    by_cases hlt : j < n
    · obtain ⟨b, o, rfl, hblt, hc⟩ := hr'.out.2 (by omega)
      have l1 : j < L.length := by have := hl.out; omega
      obtain ⟨x0, x1⟩ := hc j L[j] (List.getElem?_eq_getElem l1)
      have hb3 : w3.heap[b]? = w.heap[b]? := hW3'.out.block b hblt
      have hbr : wr.heap[b]? = w.heap[b]? := (hgr.block b (by omega) (by simp; omega)).trans hb3
      have y0 := (World.cell?_of_block (a := ⟨b, o + j * 2, none⟩) hbr).trans x0
      have y1 := (World.cell?_of_block (a := ⟨b, o + j * 2 + 1, none⟩) hbr).trans x1
      have hbw : b < wr.heap.size := by omega
      have htn := hL'.out L[j] (List.getElem_mem l1)
      have htake := Lib.hid (show nmap (L.take (j + 1)) = (nmap (L.take j)).put (nkey L[j]) (.lit (.bool true)) from by rw [List.take_succ_eq_append_getElem l1, nmap_snoc])
      generalize L[j] = t at *
      obtain ⟨c0, d0, rfl⟩ : ∃ c0 d0, t = c0 :: d0 := by cases t with
        | nil => exact absurd rfl htn.1
        | cons c d => exact ⟨c, d, rfl⟩
      have hkey := keyOf_name c0 d0 (by have := htn.2; simp at this; omega)
      obtain ⟨w5, hrun, hown5, hgr5⟩ := (hown.alloc (.cells #[.int .u8 (hdI (c0 :: d0)), str (c0 :: d0).tail] 61)).drew.update keyName Try.underlying110 (by unfold maxLen; omega) hkey (elemBoolN true)
      have hgr' := Lib.hid (grown_trans' hgr (grown_trans' (World.grownBy_alloc wr (.cells #[.int .u8 (hdI (c0 :: d0)), str (c0 :: d0).tail] 61) _) (show (wr.alloc _).grownBy w5 (some w.heap.size) from ⟨hgr5.os, hgr5.tape, hgr5.output, hgr5.size, hgr5.block⟩)))
      have hrun' : (Instr.mapUpdate 110 (.map (some w.heap.size)) (.agg #[.int .u8 (hdI (c0 :: d0)), .string ⟨d0.toArray⟩]) (.bool true)).run Try.prog (wr.alloc (.cells #[.int .u8 (hdI (c0 :: d0)), .string ⟨d0.toArray⟩] 61)).drew = .ok () w5 := hrun
      have hown5' := Lib.hid hown5
      clear hrun
      clear hc x0 x1 hown hgr hown5 hgr5 hkey htn
      go_wp2_with fail
      go_region
      go_wp2_with fail
      exact ⟨⟨j + 1, by omega, by go_num, by rw [htake.out]; exact hown5'.out, hgr'.out⟩, by simp [intOf]; omega⟩
    · have hfin : Hid (RN wr (w.heap.size + 2) w.heap.size (w.heap.size + 1) L ⟨0, 0⟩ ∧ Below w.heap.size w wr) := by
        rw [List.take_of_length_le (by have := hl.out; omega)] at hown
        refine ⟨⟨hbx, ⟨j, hown⟩, ?_, by omega, by omega⟩, hW3'.out.grown hgr (by omega) (fun k hk => by injection hk with hk; omega)⟩
        obtain ⟨k, m, h1, h2, h3, h4, h5⟩ := hct0'.out
        exact ⟨k, m, h1, h2.kept hgr (by simp), h3, h4, h5⟩
      clear hown hgr
      go_wp2_with fail
      go_ret
      exact ⟨_, _, _, rfl, hfin.out.1, by omega, Nat.le_refl _, by omega, hfin.out.2⟩

end Go.Proofs.Ytcdagenocmmidaa

namespace Go.Proofs.Ytcdagenocmmidaa
open Go.RowKit Go.Maps
set_option maxRecDepth 100000

/-- Reader of the set of free names. -/
theorem FR.look {w : World} {b : Nat} {L : List Bs} (h : FR w b L) (hL : ∀ x ∈ L, x ≠ [] ∧ x.length ≤ 9000) (c : UInt8) (d : Bs) (hd : d.length ≤ 8000) :
    (Instr.lookup 110 (.map (some b)) (.agg #[.int .u8 c.toNat, .string ⟨d.toArray⟩]) false).run Try.prog w = .ok (.bool (decide ((c :: d) ∈ L))) w := by
  obtain ⟨n, h⟩ := h
  obtain ⟨v, ps, hrun, hv⟩ := h.lookup keyName Try.underlying110 (by kernel_rfl) (elemBoolN false) (keyOf_name c d (by omega))
  rw [nmap_at (by simp) (by simp; omega) L hL] at hv
  have hb : v = .bool (decide ((c :: d) ∈ L)) := by
    unfold plainElem at hv
    rw [Try.underlying4] at hv
    split at hv
    · cases hv; rfl
    · simp_all
    · simp_all
    · cases hv
  rw [← hb]
  exact hrun

/-- The world W is w but for block b and what is new. -/
structure SG (w : World) (b : Nat) (W : World) : Prop where
  grown : w.grownBy W (some b)
theorem CT.look {w : World} {b : Nat} {st : St} (h : CT w b st) (v : Bool) :
    (Instr.lookup 111 (.map (some b)) (.int .u8 (if v then 120 else 107)) false).run Try.prog w = .ok (.int .i64 (st.get v)) w := by
  obtain ⟨n, m, -, h, -, h1, h2⟩ := h
  cases v
  · obtain ⟨c, hrun, hv, -⟩ := h.lookup_int (int_keyed Try.underlying5) Try.underlying111 Try.underlying3 (by kernel_rfl) (keyOf_int_mk Try.underlying5 (a := 107) (by decide))
    rw [h2] at hv
    injection hv with hv; injection hv with _ hv
    rw [← hv] at hrun
    exact hrun
  · obtain ⟨c, hrun, hv, -⟩ := h.lookup_int (int_keyed Try.underlying5) Try.underlying111 Try.underlying3 (by kernel_rfl) (keyOf_int_mk Try.underlying5 (a := 120) (by decide))
    rw [h1] at hv
    injection hv with hv; injection hv with _ hv
    rw [← hv] at hrun
    exact hrun

theorem CT.kept {w w' : World} {b : Nat} {st : St} (h : CT w b st) {row : Option Nat} (hg : w.grownBy w' row) (hne : some b ≠ row) : CT w' b st := by
  obtain ⟨n, m, h0, h, h1, h2, h3⟩ := h
  exact ⟨n, m, h0, h.kept hg hne, h1, h2, h3⟩
theorem FR.kept {w w' : World} {b : Nat} {L : List Bs} (h : FR w b L) {row : Option Nat} (hg : w.grownBy w' row) (hne : some b ≠ row) : FR w' b L := by
  obtain ⟨n, h⟩ := h
  exact ⟨n, h.kept hg hne⟩
theorem CT.lt {w : World} {b : Nat} {st : St} (h : CT w b st) : b < w.heap.size := by
  obtain ⟨n, m, h0, h, _⟩ := h
  exact h.lt
theorem RN.lt {w : World} {r bf bc : Nat} {L : List Bs} {st : St} (h : RN w r bf bc L st) : r < w.heap.size := (two_cells h.box).1
theorem RN.kept {w w' : World} {r bf bc : Nat} {L : List Bs} {st : St} (h : RN w r bf bc L st) (hg : w.grownBy w' none) : RN w' r bf bc L st :=
  ⟨(hg.block r h.lt (by simp)).trans h.box, h.free.kept hg (by simp), h.counts.kept hg (by simp), h.ne1, h.ne2⟩
/-- One count is raised. -/
theorem CT.up {w : World} {b : Nat} {st : St} (h : CT w b st) (v : Bool) (hb : st.x + st.k ≤ 100000) :
    ∃ w', (Instr.mapUpdate 111 (.map (some b)) (.int .u8 (if v then 120 else 107)) (.int .i64 ((st.get v : Int) + 1))).run Try.prog w = .ok () w' ∧ CT w' b (st.put v (st.get v + 1)) ∧ w.grownBy w' (some b) := by
  obtain ⟨n, m, h0, h, hm, h1, h2⟩ := h
  have hel : plainElem (H := Unit) Try.prog 3 (.int .i64 ((st.get v : Int) + 1)) = some (.lit (.int .i64 ((st.get v : Int) + 1)), []) := by
    refine plainElem_int Try.underlying3 ?_
    have hg : st.get v ≤ 100000 := by unfold St.get; split <;> omega
    simp [Lit.wf, IntKind.min, IntKind.max, IntKind.bits, IntKind.signed]
    omega
  cases v
  · obtain ⟨w', hrun, hown, hgr⟩ := h.update (int_keyed Try.underlying5) Try.underlying111 (by unfold maxLen; omega) (keyOf_int_mk Try.underlying5 (a := 107) (by decide)) hel
    refine ⟨w', hrun, ⟨n + 1, _, ?_, hown, hm.put _ _, ?_, ?_⟩, hgr⟩
    · simp [St.put, St.get]; omega
    · rw [atKey_put_other (by simp), h1]; rfl
    · rw [atKey_put_same hm (by exact True.intro)]; simp [St.put, St.get]
  · obtain ⟨w', hrun, hown, hgr⟩ := h.update (int_keyed Try.underlying5) Try.underlying111 (by unfold maxLen; omega) (keyOf_int_mk Try.underlying5 (a := 120) (by decide)) hel
    refine ⟨w', hrun, ⟨n + 1, _, ?_, hown, hm.put _ _, ?_, ?_⟩, hgr⟩
    · simp [St.put, St.get]; omega
    · rw [atKey_put_same hm (by exact True.intro)]; simp [St.put, St.get]
    · rw [atKey_put_other (by simp), h2]; rfl

theorem RN.drewed {w : World} {r bf bc : Nat} {L : List Bs} {st : St} (h : RN w r bf bc L st) : RN w.drew r bf bc L st := ⟨h.box, h.free, h.counts, h.ne1, h.ne2⟩
theorem grown_drew {w w' : World} {row : Option Nat} (h : w.grownBy w' row) : w.grownBy w'.drew row := ⟨h.os, h.tape, h.output, h.size, h.block⟩
theorem grown_sets (w : World) (b : Nat) (u v : Value) : w.grownBy ((w.setCell ⟨b, 0, none⟩ u).setCell ⟨b, 1, none⟩ v) (some b) :=
  ⟨rfl, rfl, rfl, by simp, fun j _ hne => same_set w b u v j (fun e => hne (by rw [e]))⟩
theorem FR.lt {w : World} {b : Nat} {L : List Bs} (h : FR w b L) : b < w.heap.size := by
  obtain ⟨n, h⟩ := h
  exact h.lt
theorem RN.kept2 {w w' : World} {r bf bc q : Nat} {L : List Bs} {st : St} (h : RN w r bf bc L st) (hg : w.grownBy w' (some q)) (h1 : r ≠ q) (h2 : bf ≠ q) (h3 : bc ≠ q) : RN w' r bf bc L st :=
  ⟨(hg.block r h.lt (by simp; exact h1)).trans h.box, h.free.kept hg (by simp; exact h2), h.counts.kept hg (by simp; exact h3), h.ne1, h.ne2⟩
theorem St.put_get (st : St) (v : Bool) : st.put v (st.get v) = st := by cases v <;> rfl
theorem next_any (r bf bc : Nat) (L : List Bs) (st : St) (a : Nat) (c : UInt8) (d : Bs) (w : World) (h : RN w r bf bc L st) (hL : ∀ x ∈ L, x ≠ [] ∧ x.length ≤ 9000) (hst : StOk L st a) (ha : a + L.length ≤ 98) :
    Calls Try.prog 127 #[.pointer (some ⟨r, 0, none⟩), nameV c d] w fun e w' =>
      e = .returned (nameW (cname (varB c) (nextI L (varB c) 200 (st.get (varB c))))) ∧ RN w' r bf bc L (st.put (varB c) (nextI L (varB c) 200 (st.get (varB c)) + 1)) ∧ w.grownBy w' (some bc) := by
  have hv := Lib.hid (fun W => isVariable_any c d W)
  have h' := Lib.hid h
  clear h
  cases hvb : varB c
  · rw [hvb] at hv
    clear hvb
    have hpot := hst false
    have e1 : ∀ h, (⟨#[107, 108, 109]⟩ : ByteArray)[0]'h = 107 := fun _ => rfl
    have e2 : ((107 : UInt8).toNat : Int) = 107 := rfl
    go_enter Try.func127, Try.ntmps127
    go_wp2_with fail
    refine Calls.mono (hv.out _) ?_
    rintro e w1 ⟨rfl, hb1⟩
    have hb1' := Lib.hid (below_step (by repeat (with_reducible first | exact hbel | exact Below.refl _ _ | refine Below.drew ?_ | refine Below.drewN ?_ _ | refine Below.alloc ?_ (by first | (simp; done) | (simp; omega) | omega | (have := Below.size hbel; simp; omega) | (have := Below.size hbel; omega)) _ | refine Below.setCell ?_ (by first | (simp; done) | (simp; omega) | omega) _)) (by simp) hb1 : Below w.heap.size w w1)
    have hres := Lib.hid ((hb1.block (w.heap.size + 1) (by simp)).trans (second_alloc w _ _))
    have hs1 : w.heap.size + 2 ≤ w1.heap.size := by have := hb1.size; simp at this; omega
    have hbc0 := h'.out.counts.lt
    clear hb1
    go_wp2_with fail
    go_loopg [6] 200 (fun f _ wr => ∃ k : Nat, nextI L false f k = nextI L false 200 (st.get false) ∧ Pot L false k a ∧ k ≤ 99 ∧ L.length + a + 1 ≤ f + k ∧ RN wr r bf bc L (st.put false k) ∧ w1.grownBy wr (some bc))
    case atStart => exact ⟨st.get false, rfl, hpot.1, hpot.2, by omega, by rw [St.put_get]; exact h'.out.kept (below_grown hb1'.out none), grown_refl' _ _⟩
    case round =>
      obtain ⟨k, hI, hP, hk, hf, hrn, hgr⟩ := hrel
      have hbx := hrn.box
      obtain ⟨z0, b0, b1, -, -⟩ := two_cells hbx
      have hk0 : (Instr.lookup 111 (.map (some bc)) (.int .u8 107) false).run Try.prog wr = .ok (.int .i64 k) wr := by
        have h := hrn.counts.look false
        rw [St.get_same] at h
        exact h
      have hrn1 := hrn.kept (World.grownBy_alloc wr (.cells #[.int .u8 107, .string ⟨(dec2 k).toArray⟩] 61) none)
      have hk1 : (Instr.lookup 111 (.map (some bc)) (.int .u8 107) false).run Try.prog (wr.alloc (.cells #[.int .u8 107, .string ⟨(dec2 k).toArray⟩] 61)) = .ok (.int .i64 k) (wr.alloc (.cells #[.int .u8 107, .string ⟨(dec2 k).toArray⟩] 61)) := by
        have h := hrn1.counts.look false
        rw [St.get_same] at h
        exact h
      have hsum : (st.put false k).x + (st.put false k).k ≤ 100000 := by
        have h1 := (hst true).2
        have h2 := (hst false).2
        simp [St.put, St.get] at *; omega
      obtain ⟨w5, hup, hct5, hgr5⟩ := hrn1.counts.up false hsum
      rw [St.get_same] at hup hct5
      have hpp : (st.put false k).put false (k + 1) = st.put false (k + 1) := rfl
      rw [hpp] at hct5
      have hup' : (Instr.mapUpdate 111 (.map (some bc)) (.int .u8 107) (.int .i64 ((k : Int) + 1))).run Try.prog (wr.alloc (.cells #[.int .u8 107, .string ⟨(dec2 k).toArray⟩] 61)) = .ok () w5 := hup
      have hbcl := hrn.counts.lt
      have hgrA := grown_trans' (World.grownBy_alloc wr (.cells #[.int .u8 107, .string ⟨(dec2 k).toArray⟩] 61) (some bc)) hgr5
      have hbox5 := (hgrA.block r z0 (fun e => hrn.ne2 (by injection e))).trans hbx
      obtain ⟨z5, d0, d1, -, -⟩ := two_cells hbox5
      have hn5 := (hgr5.block wr.heap.size (by simp) (by simp; omega)).trans (heap_alloc_new wr _)
      obtain ⟨zn, n0, n1, -, -⟩ := two_cells hn5
      have hfr5 : FR w5 bf L := hrn1.free.kept hgr5 (by simp; exact hrn.ne1)
      have hlk : (Instr.lookup 110 (.map (some bf)) (.agg #[.int .u8 107, .string ⟨(dec2 k).toArray⟩]) false).run Try.prog w5.drew = .ok (.bool (decide (cname false k ∈ L))) w5.drew :=
        FR.look (w := w5.drew) hfr5 hL 107 (dec2 k) (by have := (dec2_dig ⟨k, by omega⟩).2; simp only at this; omega)
      have hgr' := Lib.hid (grown_trans' hgr hgrA)
      have hrn5 : Hid (RN w5 r bf bc L (st.put false (k + 1))) := ⟨hbox5, hfr5, hct5, hrn.ne1, hrn.ne2⟩
      have hgs := hgr.size
      have hgs5 := hgrA.size
      have hres5 := (hgrA.block (w.heap.size + 1) (by omega) (by simp; omega)).trans ((hgr.block (w.heap.size + 1) (by omega) (by simp; omega)).trans hres.out)
      obtain ⟨zr, p0, p1, g0, g1⟩ := two_cells hres5
      have hit := Lib.hid (fun W => itoa_any k (by omega) W)
      have hbc1 : Hid (bc < w.heap.size) := h'.out.counts.lt
      clear hrn hrn1 hgr hup hct5 hgr5 hgrA hbx hbox5 hn5 hfr5 hres5 hpp
      cases hin : decide (cname false k ∈ L)
      · rw [hin] at hlk
        have hIk : nextI L false 200 (st.get false) = k := by
          rw [← hI]
          cases gk with
          | zero => rfl
          | succ f => rw [nextI, if_neg (of_decide_eq_false hin)]
        have hIk' := Lib.hid hIk
        clear hin hI hP hf hIk
        go_wp2_with (go_at_call 139; refine Calls.mono (hit.out _) ?_; rintro e w2 ⟨rfl, rfl⟩)
        go_region
        go_wp2_with fail
        refine bodyPost_ret (v := .agg #[.int .u8 107, .string ⟨(dec2 k).toArray⟩]) (by simp [results, Try.results127, go_sem, p0, p1]) rfl ?_
        rw [hIk'.out]
        have hgs := grown_sets w5 (w.heap.size + 1) (.int .u8 107) (.string ⟨(dec2 k).toArray⟩)
        refine ⟨rfl, (hrn5.out.kept2 hgs (by have := h'.out.lt; omega) (by have := h'.out.free.lt; omega) (by omega)).drewed, ?_⟩
        have h1 := grown_trans' (below_grown hb1'.out (some bc)) hgr'.out
        exact grown_drew ⟨hgs.os.trans h1.os, hgs.tape.trans h1.tape, hgs.output.trans h1.output, Nat.le_trans h1.size hgs.size, fun j hj hne => (hgs.block j (Nat.lt_of_lt_of_le hj h1.size) (by simp; omega)).trans (h1.block j hj hne)⟩
      · rw [hin] at hlk
        have hmem := of_decide_eq_true hin
        obtain ⟨f', rfl⟩ : ∃ f', gk = f' + 1 := by
          cases gk with
          | zero => exfalso; have := pot_lt hP (by omega); omega
          | succ f => exact ⟨f, rfl⟩
        rw [nextI, if_pos hmem] at hI
        have hP' := pot_skip hP hmem
        have hk9 := pot_lt hP' (by omega)
        have hI' := Lib.hid hI
        have hP'' := Lib.hid hP'
        clear hin hI hP hP' hmem
        go_wp2_with (go_at_call 139; refine Calls.mono (hit.out _) ?_; rintro e w2 ⟨rfl, rfl⟩)
        go_region
        go_wp2_with fail
        go_roundg f'
        case measure => omega
        case rel => exact ⟨k + 1, hI'.out, hP''.out, by omega, by omega, hrn5.out.drewed, grown_drew hgr'.out⟩
  · rw [hvb] at hv
    clear hvb
    have hpot := hst true
    have e1 : ∀ h, (⟨#[120, 121, 122]⟩ : ByteArray)[0]'h = 120 := fun _ => rfl
    have e2 : ((120 : UInt8).toNat : Int) = 120 := rfl
    go_enter Try.func127, Try.ntmps127
    go_wp2_with fail
    refine Calls.mono (hv.out _) ?_
    rintro e w1 ⟨rfl, hb1⟩
    have hb1' := Lib.hid (below_step (by repeat (with_reducible first | exact hbel | exact Below.refl _ _ | refine Below.drew ?_ | refine Below.drewN ?_ _ | refine Below.alloc ?_ (by first | (simp; done) | (simp; omega) | omega | (have := Below.size hbel; simp; omega) | (have := Below.size hbel; omega)) _ | refine Below.setCell ?_ (by first | (simp; done) | (simp; omega) | omega) _)) (by simp) hb1 : Below w.heap.size w w1)
    have hres := Lib.hid ((hb1.block (w.heap.size + 1) (by simp)).trans (second_alloc w _ _))
    have hs1 : w.heap.size + 2 ≤ w1.heap.size := by have := hb1.size; simp at this; omega
    have hbc0 := h'.out.counts.lt
    clear hb1
    go_wp2_with fail
    go_loopg [6] 200 (fun f _ wr => ∃ k : Nat, nextI L true f k = nextI L true 200 (st.get true) ∧ Pot L true k a ∧ k ≤ 99 ∧ L.length + a + 1 ≤ f + k ∧ RN wr r bf bc L (st.put true k) ∧ w1.grownBy wr (some bc))
    case atStart => exact ⟨st.get true, rfl, hpot.1, hpot.2, by omega, by rw [St.put_get]; exact h'.out.kept (below_grown hb1'.out none), grown_refl' _ _⟩
    case round =>
      obtain ⟨k, hI, hP, hk, hf, hrn, hgr⟩ := hrel
      have hbx := hrn.box
      obtain ⟨z0, b0, b1, -, -⟩ := two_cells hbx
      have hk0 : (Instr.lookup 111 (.map (some bc)) (.int .u8 120) false).run Try.prog wr = .ok (.int .i64 k) wr := by
        have h := hrn.counts.look true
        rw [St.get_same] at h
        exact h
      have hrn1 := hrn.kept (World.grownBy_alloc wr (.cells #[.int .u8 120, .string ⟨(dec2 k).toArray⟩] 61) none)
      have hk1 : (Instr.lookup 111 (.map (some bc)) (.int .u8 120) false).run Try.prog (wr.alloc (.cells #[.int .u8 120, .string ⟨(dec2 k).toArray⟩] 61)) = .ok (.int .i64 k) (wr.alloc (.cells #[.int .u8 120, .string ⟨(dec2 k).toArray⟩] 61)) := by
        have h := hrn1.counts.look true
        rw [St.get_same] at h
        exact h
      have hsum : (st.put true k).x + (st.put true k).k ≤ 100000 := by
        have h1 := (hst true).2
        have h2 := (hst false).2
        simp [St.put, St.get] at *; omega
      obtain ⟨w5, hup, hct5, hgr5⟩ := hrn1.counts.up true hsum
      rw [St.get_same] at hup hct5
      have hpp : (st.put true k).put true (k + 1) = st.put true (k + 1) := rfl
      rw [hpp] at hct5
      have hup' : (Instr.mapUpdate 111 (.map (some bc)) (.int .u8 120) (.int .i64 ((k : Int) + 1))).run Try.prog (wr.alloc (.cells #[.int .u8 120, .string ⟨(dec2 k).toArray⟩] 61)) = .ok () w5 := hup
      have hbcl := hrn.counts.lt
      have hgrA := grown_trans' (World.grownBy_alloc wr (.cells #[.int .u8 120, .string ⟨(dec2 k).toArray⟩] 61) (some bc)) hgr5
      have hbox5 := (hgrA.block r z0 (fun e => hrn.ne2 (by injection e))).trans hbx
      obtain ⟨z5, d0, d1, -, -⟩ := two_cells hbox5
      have hn5 := (hgr5.block wr.heap.size (by simp) (by simp; omega)).trans (heap_alloc_new wr _)
      obtain ⟨zn, n0, n1, -, -⟩ := two_cells hn5
      have hfr5 : FR w5 bf L := hrn1.free.kept hgr5 (by simp; exact hrn.ne1)
      have hlk : (Instr.lookup 110 (.map (some bf)) (.agg #[.int .u8 120, .string ⟨(dec2 k).toArray⟩]) false).run Try.prog w5.drew = .ok (.bool (decide (cname true k ∈ L))) w5.drew :=
        FR.look (w := w5.drew) hfr5 hL 120 (dec2 k) (by have := (dec2_dig ⟨k, by omega⟩).2; simp only at this; omega)
      have hgr' := Lib.hid (grown_trans' hgr hgrA)
      have hrn5 : Hid (RN w5 r bf bc L (st.put true (k + 1))) := ⟨hbox5, hfr5, hct5, hrn.ne1, hrn.ne2⟩
      have hgs := hgr.size
      have hgs5 := hgrA.size
      have hres5 := (hgrA.block (w.heap.size + 1) (by omega) (by simp; omega)).trans ((hgr.block (w.heap.size + 1) (by omega) (by simp; omega)).trans hres.out)
      obtain ⟨zr, p0, p1, g0, g1⟩ := two_cells hres5
      have hit := Lib.hid (fun W => itoa_any k (by omega) W)
      have hbc1 : Hid (bc < w.heap.size) := h'.out.counts.lt
      clear hrn hrn1 hgr hup hct5 hgr5 hgrA hbx hbox5 hn5 hfr5 hres5 hpp
      cases hin : decide (cname true k ∈ L)
      · rw [hin] at hlk
        have hIk : nextI L true 200 (st.get true) = k := by
          rw [← hI]
          cases gk with
          | zero => rfl
          | succ f => rw [nextI, if_neg (of_decide_eq_false hin)]
        have hIk' := Lib.hid hIk
        clear hin hI hP hf hIk
        go_wp2_with (go_at_call 139; refine Calls.mono (hit.out _) ?_; rintro e w2 ⟨rfl, rfl⟩)
        go_region
        go_wp2_with fail
        refine bodyPost_ret (v := .agg #[.int .u8 120, .string ⟨(dec2 k).toArray⟩]) (by simp [results, Try.results127, go_sem, p0, p1]) rfl ?_
        rw [hIk'.out]
        have hgs := grown_sets w5 (w.heap.size + 1) (.int .u8 120) (.string ⟨(dec2 k).toArray⟩)
        refine ⟨rfl, (hrn5.out.kept2 hgs (by have := h'.out.lt; omega) (by have := h'.out.free.lt; omega) (by omega)).drewed, ?_⟩
        have h1 := grown_trans' (below_grown hb1'.out (some bc)) hgr'.out
        exact grown_drew ⟨hgs.os.trans h1.os, hgs.tape.trans h1.tape, hgs.output.trans h1.output, Nat.le_trans h1.size hgs.size, fun j hj hne => (hgs.block j (Nat.lt_of_lt_of_le hj h1.size) (by simp; omega)).trans (h1.block j hj hne)⟩
      · rw [hin] at hlk
        have hmem := of_decide_eq_true hin
        obtain ⟨f', rfl⟩ : ∃ f', gk = f' + 1 := by
          cases gk with
          | zero => exfalso; have := pot_lt hP (by omega); omega
          | succ f => exact ⟨f, rfl⟩
        rw [nextI, if_pos hmem] at hI
        have hP' := pot_skip hP hmem
        have hk9 := pot_lt hP' (by omega)
        have hI' := Lib.hid hI
        have hP'' := Lib.hid hP'
        clear hin hI hP hP' hmem
        go_wp2_with (go_at_call 139; refine Calls.mono (hit.out _) ?_; rintro e w2 ⟨rfl, rfl⟩)
        go_region
        go_wp2_with fail
        go_roundg f'
        case measure => omega
        case rel => exact ⟨k + 1, hI'.out, hP''.out, by omega, by omega, hrn5.out.drewed, grown_drew hgr'.out⟩

end Go.Proofs.Ytcdagenocmmidaa
