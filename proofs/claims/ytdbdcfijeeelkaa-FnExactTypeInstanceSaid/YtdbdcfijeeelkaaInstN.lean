/- (impl.givenTyping).hasNameTwice. slices.Equal of names. -/
import Derived.Test.YtdbdcfijeeelkaaNameSet
import Derived.Test.YtdbdcfijeeelkaaTyHelp
import Derived.Deep.Cut
import Derived.Deep.CutRange
import Derived.Deep.CutBlock
namespace Go.Proofs.Ytdbdcfijeeelkaa
set_option linter.unusedVariables false
open Go.RowKit Go.Maps

theorem nodup_snoc {l : List Bs} {j : Nat} (hj : j < l.length) (hn : (l.take j).Nodup) (h : l[j] ∉ l.take j) : (l.take (j + 1)).Nodup := by
  rw [List.take_succ_eq_append_getElem hj, List.nodup_append]
  exact ⟨hn, by simp, fun a ha b hb e => by simp at hb; subst hb; exact h (e ▸ ha)⟩
theorem nodup_not {l : List Bs} {j : Nat} (hj : j < l.length) (h : l[j] ∈ l.take j) : ¬ l.Nodup := fun hn => by
  have h1 : (l.take (j + 1)).Nodup := hn.sublist (List.take_sublist _ _)
  rw [List.take_succ_eq_append_getElem hj, List.nodup_append] at h1
  exact h1.2.2 _ h _ (by simp) rfl

theorem made_at (w : World) (o : Obj) : ((w.alloc o).alloc (.map #[] 0)).ownsMap (H := Unit) Try.prog 49 (plainElem Try.prog 4) (w.heap.size + 1) 0 (nmap []) := by
  have h := World.ownsMap_made (H := Unit) (w.alloc o) Try.prog 49 (plainElem Try.prog 4)
  rw [show (w.alloc o).heap.size = w.heap.size + 1 from by simp] at h
  exact h

set_option maxRecDepth 100000 in
set_option maxHeartbeats 4000000 in
theorem hasTwice_any (A : Option Addr) (n c : Nat) (l : List Bs) (B : Option Addr) (m d : Nat) (wh : Option F) (w : World) (hr : RowN w A n l) (hn : n ≤ 10000000) (hL : ∀ x ∈ l, x ≠ [] ∧ x.length ≤ 100) :
    Calls Try.prog 30 #[.agg #[.slice A n c, .slice B m d, fvO wh]] w fun e w' => e = .returned (.bool (!decide l.Nodup)) ∧ Below w.heap.size w w' := by
  have hmm := @run_makeMap Try.prog
  have hr' := Lib.hid (fun W (hW : Below w.heap.size w W) => hr.below hW)
  have hl := Lib.hid hr.1
  have hL' := Lib.hid hL
  clear hr hL
  cases wh
  all_goals
    first | rw [show fvO none = Value.nilIface from rfl] | (rename_i f; rw [show fvO (some f) = .iface (ft f) (fi f) from rfl])
    go_enter Try.func30, Try.ntmps30
    go_wp2_with fail
    go_loopw [10] (fun i wr => ∃ j : Nat, j ≤ n ∧ i = .int .i64 j ∧ (l.take j).Nodup ∧ wr.ownsMap (H := Unit) Try.prog 49 (plainElem Try.prog 4) (w.heap.size + 1) j (nmap (l.take j)) ∧ Below w.heap.size w wr)
      (fun i _ => n - (intOf i).toNat)
    case atStart => exact ⟨0, Nat.zero_le _, rfl, by simp, made_at _ _, bb_alloc (bb_alloc (Below.refl _ _) _) _⟩
    case round =>
      obtain ⟨j, hj, rfl, hnd, hown, hbel⟩ := hrel
      have hbel' := Lib.hid hbel
      have hnd' := Lib.hid hnd
      by_cases hlt : j < n
      · obtain ⟨b, o, rfl, hblt, hc⟩ := (hr'.out wr hbel).2 (by omega)
        have l1 : j < l.length := by have := hl.out; omega
        obtain ⟨x0, x1⟩ := hc j l[j] (List.getElem?_eq_getElem l1)
        obtain ⟨hne, hlen⟩ := hL'.out l[j] (List.getElem_mem l1)
        have htake := Lib.hid (show nmap (l.take (j + 1)) = (nmap (l.take j)).put (nkey l[j]) (.lit (.bool true)) from by rw [List.take_succ_eq_append_getElem l1, nmap_snoc])
        have hin1 := Lib.hid (fun (h : l[j] ∉ l.take j) => nodup_snoc l1 hnd h)
        have hin2 := Lib.hid (fun (h : l[j] ∈ l.take j) => nodup_not l1 h)
        generalize l[j] = t at *
        obtain ⟨cn, dn, rfl⟩ : ∃ c0 d0, t = c0 :: d0 := by cases t with
          | nil => exact absurd rfl hne
          | cons c d => exact ⟨c, d, rfl⟩
        rw [show hdI (cn :: dn) = cn.toNat from rfl] at x0
        rw [show (cn :: dn).tail = dn from rfl] at x1
        have i1 : (j : Int) < (n : Int) := by omega
        have i0 : (0 : Int) ≤ (j : Int) := by omega
        have hkey := keyOf_name cn dn (by simp at hlen; omega)
        have hfr : FR (wr.alloc (.cells #[.int .u8 cn.toNat, .string ⟨dn.toArray⟩] 49)) (w.heap.size + 1) (l.take j) := ⟨j, hown.alloc _⟩
        have hlk := hfr.look (fun x hx => ⟨(hL'.out x (List.mem_of_mem_take hx)).1, by have := (hL'.out x (List.mem_of_mem_take hx)).2; omega⟩) cn dn (by simp at hlen; omega)
        obtain ⟨w5, hrun, hown5, hgr5⟩ := (hown.alloc (.cells #[.int .u8 cn.toNat, .string ⟨dn.toArray⟩] 49)).update keyName Try.underlying80 (by unfold maxLen; omega) hkey (elemBoolN true)
        have hrun' : (Instr.mapUpdate 80 (.map (some (w.heap.size + 1))) (.agg #[.int .u8 cn.toNat, .string ⟨dn.toArray⟩]) (.bool true)).run Try.prog (wr.alloc (.cells #[.int .u8 cn.toNat, .string ⟨dn.toArray⟩] 49)) = .ok () w5 := hrun
        have hown5' := Lib.hid hown5
        have hb5 := Lib.hid ((bb_alloc hbel _).grown hgr5 (by have := hbel.size; simp; omega) (fun k hk => by injection hk with hk; omega) : Below w.heap.size w w5)
        clear hc hnd hown hbel hfr hrun hkey hown5 hgr5 hne hlen
        cases hd : decide ((cn :: dn) ∈ l.take j)
        · rw [hd] at hlk
          have hnn := Lib.hid (hin1.out (of_decide_eq_false hd))
          clear hd
          go_wp2_with fail
          go_roundw
          case rel => exact ⟨j + 1, by omega, by go_num, hnn.out, by rw [htake.out]; exact hown5'.out, hb5.out⟩
          case measure => simp [intOf]; omega
        · rw [hd] at hlk
          have hnn := Lib.hid (hin2.out (of_decide_eq_true hd))
          clear hd
          go_wp2_with fail
          go_ret
          have hbel := hbel'.out
          exact ⟨by rw [decide_eq_false hnn.out]; rfl, (by repeat (with_reducible first | exact hbel | exact Below.refl _ _ | refine Below.drew ?_ | refine Below.drewN ?_ _ | refine Below.alloc ?_ (by first | (simp; done) | (simp; omega) | omega | (have := Below.size hbel; simp; omega) | (have := Below.size hbel; omega)) _ | refine Below.setCell ?_ (by first | (simp; done) | (simp; omega) | omega) _))⟩
      · have e : Hid (l.Nodup) := Lib.hid (by rw [List.take_of_length_le (by have := hl.out; omega)] at hnd; exact hnd)
        clear hnd hown hbel
        go_wp2_with fail
        go_ret
        exact ⟨by rw [decide_eq_true e.out]; rfl, hbel'.out⟩

set_option maxRecDepth 100000 in
set_option maxHeartbeats 4000000 in
theorem equalN_any (A : Option Addr) (n c : Nat) (l : List Bs) (B : Option Addr) (m d : Nat) (r : List Bs) (w : World) (hA : RowN w A n l) (hB : RowN w B m r) (hn : n ≤ 10000000) (hm : m ≤ 10000000) (hL : ∀ x ∈ l, x ≠ []) (hR : ∀ x ∈ r, x ≠ []) :
    Calls Try.prog 31 #[.slice A n c, .slice B m d] w fun e w' => e = .returned (.bool (decide (l = r))) ∧ Below w.heap.size w w' := by
  by_cases hnm : n = m
  · have hA' := Lib.hid hA
    have hB' := Lib.hid hB
    have hla := Lib.hid hA.1
    have hlb := Lib.hid hB.1
    have hi : ((n : Int) != (m : Int)) = false := by rw [hnm]; simp
    have hnm' := Lib.hid hnm
    clear hA hB hnm
    go_enter Try.func31, Try.ntmps31
    go_wp2_with fail
    go_loopw [13] (fun i wr => ∃ j : Nat, j ≤ n ∧ i = .int .i64 j ∧ l.take j = r.take j ∧ Below w.heap.size w wr) (fun i _ => n - (intOf i).toNat)
    case atStart => exact ⟨0, Nat.zero_le _, rfl, rfl, Below.refl _ _⟩
    case round =>
      obtain ⟨j, hj, rfl, heq, hbel⟩ := hrel
      have hbel' := Lib.hid hbel
      have heq' := Lib.hid heq
      by_cases hlt : j < n
      · obtain ⟨b1, o1, rfl, hb1, hc1⟩ := hA'.out.2 (by omega)
        obtain ⟨b2, o2, rfl, hb2, hc2⟩ := hB'.out.2 (by have := hnm'.out; omega)
        have l1 : j < l.length := by have := hla.out; omega
        have l2 : j < r.length := by have := hlb.out; have := hnm'.out; omega
        obtain ⟨x0, x1⟩ := hc1 j l[j] (List.getElem?_eq_getElem l1)
        obtain ⟨y0, y1⟩ := hc2 j r[j] (List.getElem?_eq_getElem l2)
        have x0 := (hbel.cell (p := ⟨b1, o1 + j * 2, none⟩) hb1).trans x0
        have x1 := (hbel.cell (p := ⟨b1, o1 + j * 2 + 1, none⟩) hb1).trans x1
        have y0 := (hbel.cell (p := ⟨b2, o2 + j * 2, none⟩) hb2).trans y0
        have y1 := (hbel.cell (p := ⟨b2, o2 + j * 2 + 1, none⟩) hb2).trans y1
        have hs := hL l[j] (List.getElem_mem l1)
        have ht := hR r[j] (List.getElem_mem l2)
        have hb1w : b1 < wr.heap.size := Nat.lt_of_lt_of_le hb1 hbel.size
        have hb2w : b2 < wr.heap.size := Nat.lt_of_lt_of_le hb2 hbel.size
        have hyes := Lib.hid (fun (e : l[j] = r[j]) => show l.take (j + 1) = r.take (j + 1) by rw [List.take_succ_eq_append_getElem l1, List.take_succ_eq_append_getElem l2, heq, e])
        have hno := Lib.hid (fun (e : l[j] ≠ r[j]) => show decide (l = r) = false by rw [decide_eq_false_iff_not]; intro e2; subst e2; exact e rfl)
        generalize l[j] = s at *
        generalize r[j] = t at *
        have i1 : (j : Int) < (n : Int) := by omega
        have i2 : (j : Int) < (m : Int) := by have := hnm'.out; omega
        have i0 : (0 : Int) ≤ (j : Int) := by omega
        clear hc1 hc2 hbel heq
        by_cases hst : s = t
        · subst hst
          have hy := Lib.hid (hyes.out rfl)
          clear hyes hno
          go_wp2_with fail
          go_region
          go_wp2_with fail
          go_roundw
          case rel => exact ⟨j + 1, by omega, by go_num, hy.out, hbel'.out.drew⟩
          case measure => simp [intOf]; omega
        · have hn' := Lib.hid (hno.out hst)
          have hcase : (hdI s = hdI t) = False ∨ ((hdI s = hdI t) = True ∧ (s.tail = t.tail) = False) := by
            by_cases h1 : hdI s = hdI t
            · exact .inr ⟨eq_true h1, eq_false fun h2 => hst ((name_eq hs ht).1 ⟨h1, h2⟩)⟩
            · exact .inl (eq_false h1)
          clear hst hyes hno
          rcases hcase with h1 | ⟨h1, h2⟩
          all_goals
            go_wp2_with fail
            go_region
            go_wp2_with fail
            go_ret
            exact ⟨by rw [hn'.out]; rfl, hbel'.out.drew⟩
      · have hfin : Hid (decide (l = r) = true) := Lib.hid (by
          rw [List.take_of_length_le (by have := hla.out; omega), List.take_of_length_le (by have := hlb.out; have := hnm'.out; omega)] at heq
          exact decide_eq_true heq)
        clear heq hbel
        go_wp2_with fail
        go_ret
        exact ⟨by rw [hfin.out]; rfl, hbel'.out⟩
  · have hne : Hid (decide (l = r) = false) := Lib.hid (by
      rw [decide_eq_false_iff_not]; intro e; apply hnm; rw [hA.1, hB.1, e])
    have hi : ((n : Int) != (m : Int)) = true := by rw [bne_iff_ne]; omega
    clear hA hB hnm
    go_enter Try.func31, Try.ntmps31
    go_wp2_with fail
    go_ret
    exact ⟨by rw [hne.out]; rfl, Below.refl _ _⟩

end Go.Proofs.Ytdbdcfijeeelkaa
