/- The model reads programs: l2Kind, l2Read. -/
import Derived.Test.YtagafoldkfgikaaSpecK
namespace Go.Proofs.Ytagafoldkfgikaa
set_option linter.unusedVariables false
open Go.RowKit

theorem two_keptR (w : World) (x y : Value) (E : TypeId) : Hid (∀ W', Below (w.heap.size + 1) (w.alloc (.cells #[x, y] E)) W' → W'.cell? ⟨w.heap.size, 0, none⟩ = some x ∧ W'.cell? ⟨w.heap.size, 1, none⟩ = some y) := by
  intro W' hb
  obtain ⟨-, e0, e1, -, -⟩ := two_cells (heap_alloc_new w (.cells #[x, y] E))
  exact ⟨(hb.cell (p := ⟨w.heap.size, 0, none⟩) (by simp)).trans e0, (hb.cell (p := ⟨w.heap.size, 1, none⟩) (by simp)).trans e1⟩

/-- l2Kind answers with the letter of the kind. -/
def LK (k : Nat) : Prop := ∀ (t : T) (w : World) (D : Nat → Prop) (a : ByteArray) (p : Option Addr) (n c : Nat), t.sz ≤ k → TC w D t a p n c → (∀ g, D g → g < w.heap.size) →
  Calls Try.prog 26 #[.agg #[.string a, .slice p n c]] w fun e w' => e = .returned (.string ⟨(kindO (toP t)).toArray⟩) ∧ Below w.heap.size w w'

theorem lk_atom (s : Bs) (hs : s ≠ []) (w : World) : Calls Try.prog 26 #[.agg #[.string ⟨s.toArray⟩, .slice none 0 0]] w fun e w' => e = .returned (.string ⟨(kindO (toP (.atom s))).toArray⟩) ∧ Below w.heap.size w w' := by
  have he : s.isEmpty = false := by
    cases s with
    | nil => exact absurd rfl hs
    | cons c r => rfl
  have hn : isName s = (isVar s || isCov s) := rfl
  have v := fun w => l2Var_any ⟨s.toArray⟩ w
  have c := fun w => l2Covar_any ⟨s.toArray⟩ w
  rw [show (⟨s.toArray⟩ : ByteArray).data.toList = s from rfl] at v c
  cases hv : isVar s
  · cases hc : isCov s
    · have hk : kindO (toP (.atom s)) = [] := by rw [toP_atom, hn, hv, hc]; rfl
      rw [hk]
      rw [hv] at v; rw [hc] at c
      have v' := Lib.hid v
      have c' := Lib.hid c
      clear v c hk hn
      go_enter Try.func26, Try.ntmps26
      go_wp2_with (first
        | (go_at_call 40; refine Calls.mono (v'.out _) ?_; rintro e w1 ⟨rfl, rfl⟩)
        | (go_at_call 41; refine Calls.mono (c'.out _) ?_; rintro e w1 ⟨rfl, rfl⟩))
      go_ret
      exact ⟨rfl, (by repeat (with_reducible first | exact hbel | exact Below.refl _ _ | refine Below.drew ?_ | refine Below.drewN ?_ _ | refine Below.alloc ?_ (by first | (simp; done) | (simp; omega) | omega | (have := Below.size hbel; simp; omega) | (have := Below.size hbel; omega)) _ | refine Below.setCell ?_ (by first | (simp; done) | (simp; omega) | omega) _))⟩
    · have hk : kindO (toP (.atom s)) = [99] := by
        have hnn : isName s = true := by rw [hn, hv, hc]; rfl
        rw [toP_atom, hnn]
        simp only [if_true, kindO, P.kind]
        rw [← (isVar_first hnn).1, hv]; rfl
      rw [hk]
      rw [hv] at v; rw [hc] at c
      have v' := Lib.hid v
      have c' := Lib.hid c
      clear v c hk hn
      go_enter Try.func26, Try.ntmps26
      go_wp2_with (first
        | (go_at_call 40; refine Calls.mono (v'.out _) ?_; rintro e w1 ⟨rfl, rfl⟩)
        | (go_at_call 41; refine Calls.mono (c'.out _) ?_; rintro e w1 ⟨rfl, rfl⟩))
      go_ret
      exact ⟨rfl, (by repeat (with_reducible first | exact hbel | exact Below.refl _ _ | refine Below.drew ?_ | refine Below.drewN ?_ _ | refine Below.alloc ?_ (by first | (simp; done) | (simp; omega) | omega | (have := Below.size hbel; simp; omega) | (have := Below.size hbel; omega)) _ | refine Below.setCell ?_ (by first | (simp; done) | (simp; omega) | omega) _))⟩
  · have hk : kindO (toP (.atom s)) = [116] := by
      have hnn : isName s = true := by rw [hn, hv]; rfl
      rw [toP_atom, hnn]
      simp only [if_true, kindO, P.kind]
      rw [← (isVar_first hnn).1, hv]; rfl
    rw [hk]
    rw [hv] at v
    have v' := Lib.hid v
    clear v c hk hn
    go_enter Try.func26, Try.ntmps26
    go_wp2_with (first
      | (go_at_call 40; refine Calls.mono (v'.out _) ?_; rintro e w1 ⟨rfl, rfl⟩))
    go_ret
    exact ⟨rfl, (by repeat (with_reducible first | exact hbel | exact Below.refl _ _ | refine Below.drew ?_ | refine Below.drewN ?_ _ | refine Below.alloc ?_ (by first | (simp; done) | (simp; omega) | omega | (have := Below.size hbel; simp; omega) | (have := Below.size hbel; omega)) _ | refine Below.setCell ?_ (by first | (simp; done) | (simp; omega) | omega) _))⟩

theorem shS_len (h : Bs) : (shS h).2.length ≤ 2 := by
  unfold shS
  repeat' split
  all_goals decide

theorem ba_len_l (l : Bs) : (⟨l.toArray⟩ : ByteArray).size = l.length := by rw [ba_size]
theorem ba_at (l : Bs) (i : Nat) (h : i < (⟨l.toArray⟩ : ByteArray).size) (c : UInt8) (hc : l[i]? = some c) : (⟨l.toArray⟩ : ByteArray)[i] = c := by
  have h' : i < l.length := by rw [ba_len_l] at h; exact h
  have e : (⟨l.toArray⟩ : ByteArray)[i] = l[i] := rfl
  rw [e]
  rw [List.getElem?_eq_getElem h'] at hc
  exact Option.some.inj hc
theorem ba_one (l : Bs) (i : Nat) (c : UInt8) (hc : l[i]? = some c) : (⟨l.toArray⟩ : ByteArray).extract i (i + 1) = ⟨#[c]⟩ := by
  rw [ba_extract]
  have h' := (List.getElem?_eq_some_iff.1 hc).1
  rw [show (⟨l.toArray⟩ : ByteArray).data.toList = l from rfl, List.drop_eq_getElem_cons h', show i + 1 - i = 1 from by omega]
  rw [List.getElem?_eq_getElem h'] at hc
  rw [Option.some.inj hc]
  simp

set_option maxRecDepth 100000 in
set_option maxHeartbeats 2000000 in
theorem lk_node (k : Nat) (H : Hid (LK k)) (x : T) (ts : List T) (w : World) (D : Nat → Prop) (a : ByteArray) (p : Option Addr) (n c : Nat) (hk : (T.node (x :: ts)).sz ≤ k + 1) (ht : TC w D (.node (x :: ts)) a p n c) (hD : ∀ g, D g → g < w.heap.size) :
    Calls Try.prog 26 #[.agg #[.string a, .slice p n c]] w fun e w' => e = .returned (.string ⟨(kindO (toP (.node (x :: ts)))).toArray⟩) ∧ Below w.heap.size w w' := by
  have hcall := Lib.hid (fun W hW => head_lit ht hD W hW)
  obtain ⟨rfl, hn, g, rfl, hg, hp⟩ := ht.part
  have hgw := hD g hg
  have hn' : n = ts.length + 1 := by simpa using hn
  subst hn'
  have hshape := Lib.hid (fun W => l2Shape_any ⟨(atomOf x).toArray⟩ W)
  simp only [str_list] at hshape
  rw [show headOf (x :: ts) = atomOf x from rfl] at hcall
  have hs2 := shS_len (atomOf x)
  have hnone := Lib.hid (kind_no (x := x) (ts := ts))
  have hlen := Lib.hid (kind_len (x := x) (ts := ts))
  have hbad := Lib.hid (fun hl i t c => kind_bad (x := x) (ts := ts) (i := i) (t := t) (c := c) hl)
  have hgood := Lib.hid (kind_good (x := x) (ts := ts))
  generalize hkd : (shS (atomOf x)).1 = kd at *
  generalize hsh : (shS (atomOf x)).2 = sh at *
  have hD' := Lib.hid hD
  have hp' := Lib.hid hp
  generalize hgo : toP (.node (x :: ts)) = o at *
  clear hp hD ht hn hgo hkd hsh
  have size_sh := ba_len_l sh
  cases hke : kd.isEmpty
  · by_cases hl : ts.length = sh.length
    · have hkne : kd ≠ [] := by intro e; rw [e] at hke; cases hke
      have hgood2 := Lib.hid (hgood.out hkne hl)
      have hbad2 := Lib.hid (hbad.out hl)
      have h2 : (((ts.length : Int) + 1) != ((sh.length : Int) + 1)) = false := by rw [hl]; simp
      have hl' := Lib.hid hl
      clear hkne hl
      go_enter Try.func26, Try.ntmps26
      go_wp2_with fail
      refine Calls.mono (hcall.out _ (by repeat (with_reducible first | exact hbel | exact Below.refl _ _ | refine Below.drew ?_ | refine Below.drewN ?_ _ | refine Below.alloc ?_ (by first | (simp; done) | (simp; omega) | omega | (have := Below.size hbel; simp; omega) | (have := Below.size hbel; omega)) _ | refine Below.setCell ?_ (by first | (simp; done) | (simp; omega) | omega) _))) ?_
      rintro e w1 ⟨rfl, hb1⟩
      have hbx := (hb1.block w.heap.size (by simp)).trans (heap_alloc_new w _)
      obtain ⟨z0, r0, r1, -, -⟩ := two_cells hbx
      have hbx' := Lib.hid hbx
      have hw1 := Lib.hid (below_step ((Below.refl _ _).alloc (Nat.le_refl _) _ : Below w.heap.size w (w.alloc _)) (by simp) hb1)
      clear hbx hb1
      go_wp2_with (go_at_call 42; refine Calls.mono (hshape.out _) ?_; rintro e w2 ⟨rfl, rfl⟩)
      go_loopw [5] (fun i wr => ∃ j : Nat, j ≤ sh.length ∧ i = .int .i64 j ∧ (∀ (i : Nat) (t : T) (c : UInt8), i < j → ts[i]? = some t → sh[i]? = some c → chk c t = true) ∧ Below w.heap.size w wr ∧
          wr.heap[w.heap.size]? = some (.cells #[.string ⟨#[]⟩, .slice (some ⟨g, 0, none⟩) (ts.length + 1) c] 32 (0, 0)))
        (fun i _ => sh.length - (intOf i).toNat)
      case atStart => exact ⟨0, Nat.zero_le _, rfl, fun i t c h => absurd h (by omega), by have hbel := hw1.out; exact (by repeat (with_reducible first | exact hbel | exact Below.refl _ _ | refine Below.drew ?_ | refine Below.drewN ?_ _ | refine Below.alloc ?_ (by first | (simp; done) | (simp; omega) | omega | (have := Below.size hbel; simp; omega) | (have := Below.size hbel; omega)) _ | refine Below.setCell ?_ (by first | (simp; done) | (simp; omega) | omega) _)), hbx'.out⟩
      case round =>
        clear r0 r1 z0
        obtain ⟨j, hj, rfl, hall, hbel, hbox⟩ := hrel
        obtain ⟨z0, r0, r1, -, -⟩ := two_cells hbox
        have hall' := Lib.hid hall
        have hbox' := Lib.hid hbox
        have hbel' := Lib.hid hbel
        clear hbox hall
        by_cases hlt : j < sh.length
        · obtain ⟨c1, hcc⟩ : ∃ c1, sh[j]? = some c1 := ⟨sh[j], List.getElem?_eq_getElem _⟩
          obtain ⟨t, htj⟩ : ∃ t, ts[j]? = some t := ⟨ts[j]'(by rw [hl'.out]; exact hlt), List.getElem?_eq_getElem _⟩
          obtain ⟨a1, p1, n1, c2, x0, x1, t1⟩ := hp'.out (j + 1) t (by simpa using htj)
          have y0 := (hbel.cell (p := ⟨g, (j + 1) * 2, none⟩) hgw).trans x0
          have y1 := (hbel.cell (p := ⟨g, (j + 1) * 2 + 1, none⟩) hgw).trans x1
          have hgr : g < wr.heap.size := Nat.lt_of_lt_of_le hgw hbel.size
          have hcj := fun h => ba_at sh j h c1 hcc
          have hone := ba_one sh j c1 hcc
          have htk : t.sz ≤ k := by have := T.sz_part (ps := x :: ts) (i := j + 1) (t := t) (by simpa using htj); omega
          have hta := t1.textB
          have t1' := Lib.hid t1
          have hcc' := Lib.hid hcc
          have htj' := Lib.hid htj
          have hjlen : (j : Int) + 1 < (ts.length : Int) + 1 := by have := hl'.out; omega
          have var := Lib.hid (fun W => l2Var_any ⟨(atomOf t).toArray⟩ W)
          have cov := Lib.hid (fun W => l2Covar_any ⟨(atomOf t).toArray⟩ W)
          rw [show (⟨(atomOf t).toArray⟩ : ByteArray).data.toList = atomOf t from rfl] at var cov
          clear x0 x1 t1 htj hbel hcc
          subst hta
          by_cases h120 : c1 = 120
          · subst h120
            cases hv : isVar (atomOf t)
            · have hno := Lib.hid (hbad2.out j t 120 htj'.out hcc'.out hv)
              rw [hv] at var
              clear hv
              go_wp2_with (go_at_call 40; refine Calls.mono (var.out _) ?_; rintro e w2 ⟨rfl, rfl⟩)
              go_ret
              have ho : o = none := hno.out
              subst ho
              exact ⟨rfl, (by have hbel := hbel'.out; exact (by repeat (with_reducible first | exact hbel | exact Below.refl _ _ | refine Below.drew ?_ | refine Below.drewN ?_ _ | refine Below.alloc ?_ (by first | (simp; done) | (simp; omega) | omega | (have := Below.size hbel; simp; omega) | (have := Below.size hbel; omega)) _ | refine Below.setCell ?_ (by first | (simp; done) | (simp; omega) | omega) _)))⟩
            · have hyes : Hid (chk 120 t = true) := hv
              rw [hv] at var
              clear hv
              go_wp2_with (go_at_call 40; refine Calls.mono (var.out _) ?_; rintro e w2 ⟨rfl, rfl⟩)
              go_roundw
              case rel =>
                refine ⟨j + 1, by omega, by go_num, fun i u d h1 h2 h3 => ?_, (by have hbel := hbel'.out; exact (by repeat (with_reducible first | exact hbel | exact Below.refl _ _ | refine Below.drew ?_ | refine Below.drewN ?_ _ | refine Below.alloc ?_ (by first | (simp; done) | (simp; omega) | omega | (have := Below.size hbel; simp; omega) | (have := Below.size hbel; omega)) _ | refine Below.setCell ?_ (by first | (simp; done) | (simp; omega) | omega) _))), ((Below.heap_alloc _ _ _ (by omega)).trans hbox'.out)⟩
                by_cases e : i = j
                · subst e
                  rw [htj'.out] at h2; injection h2 with h2
                  rw [hcc'.out] at h3; injection h3 with h3
                  rw [← h2, ← h3]; exact hyes.out
                · exact hall'.out i u d (by omega) h2 h3
              case measure => simp [intOf]; omega
          · by_cases h97 : c1 = 97
            · subst h97
              cases hv : isCov (atomOf t)
              · have hno := Lib.hid (hbad2.out j t 97 htj'.out hcc'.out hv)
                rw [hv] at cov
                clear hv
                go_wp2_with (go_at_call 41; refine Calls.mono (cov.out _) ?_; rintro e w2 ⟨rfl, rfl⟩)
                go_ret
                have ho : o = none := hno.out
                subst ho
                exact ⟨rfl, (by have hbel := hbel'.out; exact (by repeat (with_reducible first | exact hbel | exact Below.refl _ _ | refine Below.drew ?_ | refine Below.drewN ?_ _ | refine Below.alloc ?_ (by first | (simp; done) | (simp; omega) | omega | (have := Below.size hbel; simp; omega) | (have := Below.size hbel; omega)) _ | refine Below.setCell ?_ (by first | (simp; done) | (simp; omega) | omega) _)))⟩
              · have hyes : Hid (chk 97 t = true) := hv
                rw [hv] at cov
                clear hv
                go_wp2_with (go_at_call 41; refine Calls.mono (cov.out _) ?_; rintro e w2 ⟨rfl, rfl⟩)
                go_roundw
                case rel =>
                  refine ⟨j + 1, by omega, by go_num, fun i u d h1 h2 h3 => ?_, (by have hbel := hbel'.out; exact (by repeat (with_reducible first | exact hbel | exact Below.refl _ _ | refine Below.drew ?_ | refine Below.drewN ?_ _ | refine Below.alloc ?_ (by first | (simp; done) | (simp; omega) | omega | (have := Below.size hbel; simp; omega) | (have := Below.size hbel; omega)) _ | refine Below.setCell ?_ (by first | (simp; done) | (simp; omega) | omega) _))), ((Below.heap_alloc _ _ _ (by omega)).trans hbox'.out)⟩
                  by_cases e : i = j
                  · subst e
                    rw [htj'.out] at h2; injection h2 with h2
                    rw [hcc'.out] at h3; injection h3 with h3
                    rw [← h2, ← h3]; exact hyes.out
                  · exact hall'.out i u d (by omega) h2 h3
                case measure => simp [intOf]; omega
            · have e1 : ((c1.toNat : Int) == 120) = false := (beqInt c1 120).trans (by simpa using h120)
              have e2 : ((c1.toNat : Int) == 97) = false := (beqInt c1 97).trans (by simpa using h97)
              have call := Lib.hid (fun W (hW : Below w.heap.size w W) => H.out t W D ⟨(atomOf t).toArray⟩ p1 n1 c2 htk (t1'.out.below hW hD'.out) (fun g hg => Nat.lt_of_lt_of_le (hD'.out g hg) hW.size))
              cases hv : (kindO (toP t) == [c1])
              · have hno := Lib.hid (hbad2.out j t c1 htj'.out hcc'.out (by unfold chk; rw [if_neg h120, if_neg h97]; exact hv))
                clear h120 h97
                have q1 : (0 : Int) ≤ (j : Int) := by omega
                have q2 : (j : Int) ≤ (j : Int) + 1 := by omega
                have q3 : (j : Int) + 1 ≤ (sh.length : Int) := by omega
                have q4 : IntKind.i64.wrap ((j : Int) + 1) = (j : Int) + 1 := IntWalk.i64_in _ (by omega)
                go_wp2_with fail
                go_region_with ((refine Calls.mono (call.out _ (by have hbel := hbel'.out; exact (by repeat (with_reducible first | exact hbel | exact Below.refl _ _ | refine Below.drew ?_ | refine Below.drewN ?_ _ | refine Below.alloc ?_ (by first | (simp; done) | (simp; omega) | omega | (have := Below.size hbel; simp; omega) | (have := Below.size hbel; omega)) _ | refine Below.setCell ?_ (by first | (simp; done) | (simp; omega) | omega) _)))) ?_; rintro e w1 ⟨rfl, hb1⟩))
                all_goals
                  have hbw := Lib.hid (below_step (show Below w.heap.size w _ from (bb_alloc hbel'.out _).drew) (by have := hbel'.out.size; simp) hb1)
                  go_wp2_with fail
                  go_ret
                  have ho : o = none := hno.out
                  subst ho
                  exact ⟨rfl, hbw.out⟩
              · have hyes : Hid (chk c1 t = true) := Lib.hid (by unfold chk; rw [if_neg h120, if_neg h97]; exact hv)
                clear h120 h97
                have q1 : (0 : Int) ≤ (j : Int) := by omega
                have q2 : (j : Int) ≤ (j : Int) + 1 := by omega
                have q3 : (j : Int) + 1 ≤ (sh.length : Int) := by omega
                have q4 : IntKind.i64.wrap ((j : Int) + 1) = (j : Int) + 1 := IntWalk.i64_in _ (by omega)
                go_wp2_with fail
                go_region_with ((refine Calls.mono (call.out _ (by have hbel := hbel'.out; exact (by repeat (with_reducible first | exact hbel | exact Below.refl _ _ | refine Below.drew ?_ | refine Below.drewN ?_ _ | refine Below.alloc ?_ (by first | (simp; done) | (simp; omega) | omega | (have := Below.size hbel; simp; omega) | (have := Below.size hbel; omega)) _ | refine Below.setCell ?_ (by first | (simp; done) | (simp; omega) | omega) _)))) ?_; rintro e w1 ⟨rfl, hb1⟩))
                all_goals
                  have hbw := Lib.hid (below_step (show Below w.heap.size w _ from (bb_alloc hbel'.out _).drew) (by have := hbel'.out.size; simp) hb1)
                  go_wp2_with fail
                  have hbx3 := Lib.hid ((hb1.block w.heap.size (by have := hbel'.out.size; simp; omega)).trans ((Below.heap_alloc _ _ _ (by omega)).trans hbox'.out))
                  clear hb1
                  go_roundw
                  case rel =>
                    refine ⟨j + 1, by omega, by go_num, fun i u d h1 h2 h3 => ?_, hbw.out, hbx3.out⟩
                    by_cases e : i = j
                    · subst e
                      rw [htj'.out] at h2; injection h2 with h2
                      rw [hcc'.out] at h3; injection h3 with h3
                      rw [← h2, ← h3]; exact hyes.out
                    · exact hall'.out i u d (by omega) h2 h3
                  case measure => simp [intOf]; omega
        · have hj' : j = sh.length := by omega
          have hfin := Lib.hid (hgood2.out (fun i t c ht hc => hall'.out i t c (by have := (List.getElem?_eq_some_iff.1 hc).1; omega) ht hc))
          clear hj'
          go_wp2_with fail
          go_ret
          refine ⟨?_, hbel'.out⟩
          rw [hfin.out]; rfl
    · have ho : o = none := hlen.out hl
      subst ho
      have h2 : (((ts.length : Int) + 1) != ((sh.length : Int) + 1)) = true := by rw [bne_iff_ne]; omega
      clear hl
      go_enter Try.func26, Try.ntmps26
      go_wp2_with fail
      refine Calls.mono (hcall.out _ (by repeat (with_reducible first | exact hbel | exact Below.refl _ _ | refine Below.drew ?_ | refine Below.drewN ?_ _ | refine Below.alloc ?_ (by first | (simp; done) | (simp; omega) | omega | (have := Below.size hbel; simp; omega) | (have := Below.size hbel; omega)) _ | refine Below.setCell ?_ (by first | (simp; done) | (simp; omega) | omega) _))) ?_
      rintro e w1 ⟨rfl, hb1⟩
      have hbx := (hb1.block w.heap.size (by simp)).trans (heap_alloc_new w _)
      obtain ⟨z0, r0, r1, -, -⟩ := two_cells hbx
      have hw1 := Lib.hid (below_step ((Below.refl _ _).alloc (Nat.le_refl _) _ : Below w.heap.size w (w.alloc _)) (by simp) hb1)
      clear hbx hb1
      go_wp2_with (go_at_call 42; refine Calls.mono (hshape.out _) ?_; rintro e w2 ⟨rfl, rfl⟩)
      go_ret
      refine ⟨rfl, ?_⟩
      have hbel := hw1.out
      exact (by repeat (with_reducible first | exact hbel | exact Below.refl _ _ | refine Below.drew ?_ | refine Below.drewN ?_ _ | refine Below.alloc ?_ (by first | (simp; done) | (simp; omega) | omega | (have := Below.size hbel; simp; omega) | (have := Below.size hbel; omega)) _ | refine Below.setCell ?_ (by first | (simp; done) | (simp; omega) | omega) _))
  · have ho : o = none := hnone.out (by simpa using hke)
    subst ho
    go_enter Try.func26, Try.ntmps26
    go_wp2_with fail
    refine Calls.mono (hcall.out _ (by repeat (with_reducible first | exact hbel | exact Below.refl _ _ | refine Below.drew ?_ | refine Below.drewN ?_ _ | refine Below.alloc ?_ (by first | (simp; done) | (simp; omega) | omega | (have := Below.size hbel; simp; omega) | (have := Below.size hbel; omega)) _ | refine Below.setCell ?_ (by first | (simp; done) | (simp; omega) | omega) _))) ?_
    rintro e w1 ⟨rfl, hb1⟩
    have hbx := (hb1.block w.heap.size (by simp)).trans (heap_alloc_new w _)
    obtain ⟨z0, r0, r1, -, -⟩ := two_cells hbx
    have hw1 := Lib.hid (below_step ((Below.refl _ _).alloc (Nat.le_refl _) _ : Below w.heap.size w (w.alloc _)) (by simp) hb1)
    clear hbx hb1
    go_wp2_with (go_at_call 42; refine Calls.mono (hshape.out _) ?_; rintro e w2 ⟨rfl, rfl⟩)
    go_ret
    refine ⟨rfl, ?_⟩
    have hbel := hw1.out
    exact (by repeat (with_reducible first | exact hbel | exact Below.refl _ _ | refine Below.drew ?_ | refine Below.drewN ?_ _ | refine Below.alloc ?_ (by first | (simp; done) | (simp; omega) | omega | (have := Below.size hbel; simp; omega) | (have := Below.size hbel; omega)) _ | refine Below.setCell ?_ (by first | (simp; done) | (simp; omega) | omega) _))

theorem lk_nil (A : Option Addr) (c : Nat) (w : World) : Calls Try.prog 26 #[.agg #[.string ⟨#[]⟩, .slice A 0 c]] w fun e w' => e = .returned (.string ⟨#[]⟩) ∧ Below w.heap.size w w' := by
  have hshape := fun W => l2Shape_any ⟨#[]⟩ W
  rw [show (⟨#[]⟩ : ByteArray).toList = [] from by rw [Lib.toList_data], show shS [] = ([], []) from by decide] at hshape
  have hshape' := Lib.hid hshape
  clear hshape
  go_enter Try.func26, Try.ntmps26
  go_wp2_with fail
  refine Calls.mono (head_none A c _) ?_
  rintro e w1 ⟨rfl, hb1⟩
  have hbx := (hb1.block w.heap.size (by simp)).trans (heap_alloc_new w _)
  obtain ⟨z0, r0, r1, -, -⟩ := two_cells hbx
  have hw1 := Lib.hid (below_step ((Below.refl _ _).alloc (Nat.le_refl _) _ : Below w.heap.size w (w.alloc _)) (by simp) hb1)
  clear hbx hb1
  go_wp2_with (go_at_call 42; refine Calls.mono (hshape'.out _) ?_; rintro e w2 ⟨rfl, rfl⟩)
  go_ret
  refine ⟨rfl, ?_⟩
  have hbel := hw1.out
  exact (by repeat (with_reducible first | exact hbel | exact Below.refl _ _ | refine Below.drew ?_ | refine Below.drewN ?_ _ | refine Below.alloc ?_ (by first | (simp; done) | (simp; omega) | omega | (have := Below.size hbel; simp; omega) | (have := Below.size hbel; omega)) _ | refine Below.setCell ?_ (by first | (simp; done) | (simp; omega) | omega) _))

theorem lk_all : ∀ k, LK k := by
  intro k
  induction k with
  | zero => intro t w D a p n c hk; have := t.sz_pos; omega
  | succ k ih =>
    intro t w D a p n c hk ht hD
    match t, hk, ht with
    | .atom s, _, ht =>
      rw [TC] at ht
      obtain ⟨hs, rfl, rfl, rfl, rfl⟩ := ht
      exact lk_atom s hs w
    | .node [], _, ht =>
      obtain ⟨rfl, hn, g, rfl, -, -⟩ := ht.part
      have hn' : n = 0 := hn
      subst hn'
      rw [toP_nil]
      exact lk_nil _ c w
    | .node (x :: ts), hk, ht => exact lk_node k ih x ts w D a p n c hk ht hD

/-- What l2Read answers. -/
def RdPost (s : Bs) (w : World) (e : Ending) (w' : World) : Prop :=
  Below w.heap.size w w' ∧
    ((∃ p a A n c, readP s = some p ∧ e = .returned (.tuple #[.agg #[.string a, .slice A n c], .string ⟨p.kind.let.toArray⟩, .bool true]) ∧ TC w' (New w.heap.size w') p.tree a A n c) ∨
     (∃ a A n c, readP s = none ∧ e = .returned (.tuple #[.agg #[.string a, .slice A n c], .string ⟨#[]⟩, .bool false])))

end Go.Proofs.Ytagafoldkfgikaa
