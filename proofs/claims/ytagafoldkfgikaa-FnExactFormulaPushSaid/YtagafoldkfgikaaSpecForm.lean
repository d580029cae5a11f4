/- The model's look at what is read: l1Head, l1Is, l1Atoms. -/
import Derived.Test.YtagafoldkfgikaaHead
import Derived.Test.YtagafoldkfgikaaText
import Derived.Test.YtagafoldkfgikaaLetter
namespace Go.Proofs.Ytagafoldkfgikaa
set_option linter.unusedVariables false
open Go.RowKit

def IS (k : Nat) : Prop := ∀ (t : T) (w : World) (D : Nat → Prop) (a : ByteArray) (p : Option Addr) (n c : Nat), t.sz ≤ k → TC w D t a p n c → (∀ g, D g → g < w.heap.size) →
  Calls Try.prog 35 #[.agg #[.string a, .slice p n c]] w fun e w' => e = .returned (.bool (isT t)) ∧ Below w.heap.size w w'

theorem is_atom (s : Bs) (hs : s ≠ []) (w : World) : Calls Try.prog 35 #[.agg #[.string ⟨s.toArray⟩, .slice none 0 0]] w fun e w' => e = .returned (.bool (isT (.atom s))) ∧ Below w.heap.size w w' := by
  have he : s.isEmpty = false := by cases s with
    | nil => exact absurd rfl hs
    | cons => rfl
  have hf := Lib.hid (isT_atom s)
  have hlet : ∀ W, Calls Try.prog 49 #[.string ⟨s.toArray⟩] W fun e w' => e = .returned (.bool (isLet s)) ∧ W = w' := fun W => l1Letter_any ⟨s.toArray⟩ W
  have hlet' := Lib.hid hlet
  clear hlet
  go_enter Try.func35, Try.ntmps35
  go_wp2_with (go_at_call 49; refine (hlet'.out _).mono ?_; rintro e w' ⟨rfl, rfl⟩)
  go_ret
  exact ⟨ret_bool hf.out.symm, (by repeat (with_reducible first | exact hbel | exact Below.refl _ _ | refine Below.drew ?_ | refine Below.drewN ?_ _ | refine Below.alloc ?_ (by first | (simp; done) | (simp; omega) | omega | (have := Below.size hbel; simp; omega) | (have := Below.size hbel; omega)) _ | refine Below.setCell ?_ (by first | (simp; done) | (simp; omega) | omega) _))⟩

theorem is_node (k : Nat) (H : Hid (IS k)) (ps : List T) (w : World) (D : Nat → Prop) (a : ByteArray) (p : Option Addr) (n c : Nat) (hk : (T.node ps).sz ≤ k + 1) (hk9 : k ≤ 9000)
    (ht : TC w D (.node ps) a p n c) (hD : ∀ g, D g → g < w.heap.size) :
    Calls Try.prog 35 #[.agg #[.string a, .slice p n c]] w fun e w' => e = .returned (.bool (isT (.node ps))) ∧ Below w.heap.size w w' := by
  obtain ⟨a0, ha0, hcall⟩ := head_node ht hD
  obtain ⟨rfl, rfl, g, rfl, hg, hp⟩ := ht.part
  have hlen : ps.length ≤ 9000 := by
    have h1 := length_sz ps
    rw [T.sz.eq_2] at hk
    omega
  have hcall' := Lib.hid hcall
  have hp' := Lib.hid hp
  have hD' := Lib.hid hD
  have hgw := hD g hg
  clear hcall hp hD hg ht
  cases h42 : (a0.toList == [42])
  · cases h43 : (a0.toList == [43])
    · cases h45 : (a0.toList == [45])
      · have hf := Lib.hid (isT_bad (ps := ps) (fun h => by rw [← ha0] at h; rcases h with h | h <;> rw [h] at h42 h43 <;> simp at h42 h43) (fun h => by rw [← ha0] at h; rw [h] at h45; simp at h45))
        clear ha0
        go_enter Try.func35, Try.ntmps35
        go_wp2_with (go_at_call 29; refine (hcall'.out _ (by repeat (with_reducible first | exact hbel | exact Below.refl _ _ | refine Below.drew ?_ | refine Below.drewN ?_ _ | refine Below.alloc ?_ (by first | (simp; done) | (simp; omega) | omega | (have := Below.size hbel; simp; omega) | (have := Below.size hbel; omega)) _ | refine Below.setCell ?_ (by first | (simp; done) | (simp; omega) | omega) _))).mono ?_; rintro e w0 ⟨rfl, hb1⟩)
        go_ret
        exact ⟨ret_bool hf.out.symm, below_step ((Below.refl _ _).alloc (Nat.le_refl _) _) (by simp) hb1⟩
      · have hh : headOf ps = [45] := by rw [← ha0]; simpa using h45
        have hpart := Lib.hid (fun (j : Nat) (t : T) (hj : 1 ≤ j) (htj : ps[j]? = some t) (hb : isT t = false) => isT_part_bad (ps := ps) hj htj hb)
        by_cases hl : ps.length = 2
        · have hgood := Lib.hid (fun hp => isT_good (ps := ps) (by rw [hh, hl]; simp) hp)
          clear ha0 hh
          have hbx0 := heap_alloc_new w (.cells #[.string ⟨#[]⟩, .slice (some ⟨g, 0, none⟩) ps.length c] 32)
          have hl' := Lib.hid hl
          rw [hl] at hbx0 hcall'
          rw [hl]
          have hbx0' := Lib.hid hbx0
          clear hl hbx0
          go_enter Try.func35, Try.ntmps35
          go_wp2_with fail
          refine (hcall'.out _ (by repeat (with_reducible first | exact hbel | exact Below.refl _ _ | refine Below.drew ?_ | refine Below.drewN ?_ _ | refine Below.alloc ?_ (by first | (simp; done) | (simp; omega) | omega | (have := Below.size hbel; simp; omega) | (have := Below.size hbel; omega)) _ | refine Below.setCell ?_ (by first | (simp; done) | (simp; omega) | omega) _))).mono ?_
          rintro e w0 ⟨rfl, hb1⟩
          have hbx := (hb1.block _ (by simp)).trans hbx0'.out
          have hbelo := below_step ((Below.refl _ _).alloc (Nat.le_refl _) _) (by simp) hb1
          obtain ⟨z0, q0, q1, -, -⟩ := two_cells hbx
          have hbx' := Lib.hid hbx
          have hbelo' := Lib.hid hbelo
          clear hb1 hbx hbelo
          go_wp2_with fail
          go_loopw [4] (fun i wr => ∃ j : Nat, 1 ≤ j ∧ j ≤ 2 ∧ i = .int .i64 j ∧ partsIs ps j ∧ Below w.heap.size w wr ∧ wr.heap[w.heap.size]? = some (.cells #[.string ⟨#[]⟩, .slice (some ⟨g, 0, none⟩) 2 c] 32 (0, 0)))
            (fun i _ => 2 - (intOf i).toNat)
          case atStart => exact ⟨1, Nat.le_refl _, by omega, rfl, fun j t h1 h2 => absurd h1 (by omega), hbelo'.out, hbx'.out⟩
          case round =>
            obtain ⟨j, hj1, hj, rfl, hpi, hbel, hbox⟩ := hrel
            obtain ⟨z0, b0, b1, -, -⟩ := two_cells hbox
            have hpi' := Lib.hid hpi
            have hbox' := Lib.hid hbox
            have hbel' := Lib.hid hbel
            clear hbox hpi q0 q1
            by_cases hlt : j < 2
            · obtain ⟨t, htj⟩ : ∃ t, ps[j]? = some t := ⟨ps[j]'(by rw [hl'.out]; exact hlt), List.getElem?_eq_getElem _⟩
              obtain ⟨a1, p1, n1, c1, x0, x1, t1⟩ := hp'.out j t htj
              have y0 := (hbel.cell (p := ⟨g, j * 2, none⟩) hgw).trans x0
              have y1 := (hbel.cell (p := ⟨g, j * 2 + 1, none⟩) hgw).trans x1
              have htj' := Lib.hid htj
              have t1' := Lib.hid t1
              have htk : t.sz ≤ k := by have := T.sz_part htj; omega
              clear x0 x1 t1 htj hbel
              cases hit : isT t
              · go_wp2_with fail
                refine (H.out t _ D a1 p1 n1 c1 htk (t1'.out.below hbel'.out hD'.out) (fun g hg => by have := hD'.out g hg; omega)).mono ?_
                rintro e w1 ⟨rfl, hb1⟩
                have hff := Lib.hid (hpart.out j t hj1 htj'.out hit)
                go_wp2_with fail
                go_ret
                exact ⟨ret_bool hff.out.symm, below_step hbel'.out (Nat.le_refl _) hb1⟩
              · have hit' := Lib.hid hit
                go_wp2_with fail
                refine (H.out t _ D a1 p1 n1 c1 htk (t1'.out.below hbel'.out hD'.out) (fun g hg => by have := hD'.out g hg; omega)).mono ?_
                rintro e w1 ⟨rfl, hb1⟩
                go_wp2_with fail
                go_roundw
                case rel =>
                  refine ⟨j + 1, by omega, by omega, by go_num, fun i u h1 h2 hu => ?_, below_step hbel'.out (Nat.le_refl _) hb1, (hb1.block _ (by omega)).trans hbox'.out⟩
                  by_cases e : i = j
                  · subst e
                    have := htj'.out
                    rw [this] at hu; injection hu with hu; rw [← hu]; exact hit'.out
                  · exact hpi'.out i u h1 (by omega) hu
                case measure => simp [intOf]; omega
            · have hjl : j = 2 := by omega
              have hgood2 := Lib.hid (hgood.out (by rw [hl'.out, ← hjl]; exact hpi'.out))
              clear hjl
              go_wp2_with fail
              go_ret
              exact ⟨ret_bool hgood2.out.symm, hbel'.out⟩
        · have hbad := Lib.hid (isT_bad (ps := ps) (fun h => by rw [hh] at h; first | exact hl | (rcases h with h | h <;> simp at h)) (fun h => by rw [hh] at h; first | exact hl | simp at h))
          have hb0 : ((ps.length : Int) != 2) = true := by rw [bne_iff_ne]; omega
          clear ha0 hh hl
          go_enter Try.func35, Try.ntmps35
          go_wp2_with fail
          refine (hcall'.out _ (by repeat (with_reducible first | exact hbel | exact Below.refl _ _ | refine Below.drew ?_ | refine Below.drewN ?_ _ | refine Below.alloc ?_ (by first | (simp; done) | (simp; omega) | omega | (have := Below.size hbel; simp; omega) | (have := Below.size hbel; omega)) _ | refine Below.setCell ?_ (by first | (simp; done) | (simp; omega) | omega) _))).mono ?_
          rintro e w0 ⟨rfl, hb1⟩
          have hbx := (hb1.block _ (by simp)).trans (heap_alloc_new w (.cells #[.string ⟨#[]⟩, .slice (some ⟨g, 0, none⟩) ps.length c] 32))
          obtain ⟨z0, q0, q1, -, -⟩ := two_cells hbx
          have hbelo := Lib.hid (below_step ((Below.refl _ _).alloc (Nat.le_refl _) _) (by simp) hb1)
          clear hb1 hbx
          go_wp2_with fail
          go_ret
          exact ⟨ret_bool hbad.out.symm, hbelo.out⟩
    · have hh : headOf ps = [43] := by rw [← ha0]; simpa using h43
      have hpart := Lib.hid (fun (j : Nat) (t : T) (hj : 1 ≤ j) (htj : ps[j]? = some t) (hb : isT t = false) => isT_part_bad (ps := ps) hj htj hb)
      by_cases hl : ps.length = 3
      · have hgood := Lib.hid (fun hp => isT_good (ps := ps) (by rw [hh, hl]; simp) hp)
        clear ha0 hh
        have hbx0 := heap_alloc_new w (.cells #[.string ⟨#[]⟩, .slice (some ⟨g, 0, none⟩) ps.length c] 32)
        have hl' := Lib.hid hl
        rw [hl] at hbx0 hcall'
        rw [hl]
        have hbx0' := Lib.hid hbx0
        clear hl hbx0
        go_enter Try.func35, Try.ntmps35
        go_wp2_with fail
        refine (hcall'.out _ (by repeat (with_reducible first | exact hbel | exact Below.refl _ _ | refine Below.drew ?_ | refine Below.drewN ?_ _ | refine Below.alloc ?_ (by first | (simp; done) | (simp; omega) | omega | (have := Below.size hbel; simp; omega) | (have := Below.size hbel; omega)) _ | refine Below.setCell ?_ (by first | (simp; done) | (simp; omega) | omega) _))).mono ?_
        rintro e w0 ⟨rfl, hb1⟩
        have hbx := (hb1.block _ (by simp)).trans hbx0'.out
        have hbelo := below_step ((Below.refl _ _).alloc (Nat.le_refl _) _) (by simp) hb1
        obtain ⟨z0, q0, q1, -, -⟩ := two_cells hbx
        have hbx' := Lib.hid hbx
        have hbelo' := Lib.hid hbelo
        clear hb1 hbx hbelo
        go_wp2_with fail
        go_loopw [4] (fun i wr => ∃ j : Nat, 1 ≤ j ∧ j ≤ 3 ∧ i = .int .i64 j ∧ partsIs ps j ∧ Below w.heap.size w wr ∧ wr.heap[w.heap.size]? = some (.cells #[.string ⟨#[]⟩, .slice (some ⟨g, 0, none⟩) 3 c] 32 (0, 0)))
          (fun i _ => 3 - (intOf i).toNat)
        case atStart => exact ⟨1, Nat.le_refl _, by omega, rfl, fun j t h1 h2 => absurd h1 (by omega), hbelo'.out, hbx'.out⟩
        case round =>
          obtain ⟨j, hj1, hj, rfl, hpi, hbel, hbox⟩ := hrel
          obtain ⟨z0, b0, b1, -, -⟩ := two_cells hbox
          have hpi' := Lib.hid hpi
          have hbox' := Lib.hid hbox
          have hbel' := Lib.hid hbel
          clear hbox hpi q0 q1
          by_cases hlt : j < 3
          · obtain ⟨t, htj⟩ : ∃ t, ps[j]? = some t := ⟨ps[j]'(by rw [hl'.out]; exact hlt), List.getElem?_eq_getElem _⟩
            obtain ⟨a1, p1, n1, c1, x0, x1, t1⟩ := hp'.out j t htj
            have y0 := (hbel.cell (p := ⟨g, j * 2, none⟩) hgw).trans x0
            have y1 := (hbel.cell (p := ⟨g, j * 2 + 1, none⟩) hgw).trans x1
            have htj' := Lib.hid htj
            have t1' := Lib.hid t1
            have htk : t.sz ≤ k := by have := T.sz_part htj; omega
            clear x0 x1 t1 htj hbel
            cases hit : isT t
            · go_wp2_with fail
              refine (H.out t _ D a1 p1 n1 c1 htk (t1'.out.below hbel'.out hD'.out) (fun g hg => by have := hD'.out g hg; omega)).mono ?_
              rintro e w1 ⟨rfl, hb1⟩
              have hff := Lib.hid (hpart.out j t hj1 htj'.out hit)
              go_wp2_with fail
              go_ret
              exact ⟨ret_bool hff.out.symm, below_step hbel'.out (Nat.le_refl _) hb1⟩
            · have hit' := Lib.hid hit
              go_wp2_with fail
              refine (H.out t _ D a1 p1 n1 c1 htk (t1'.out.below hbel'.out hD'.out) (fun g hg => by have := hD'.out g hg; omega)).mono ?_
              rintro e w1 ⟨rfl, hb1⟩
              go_wp2_with fail
              go_roundw
              case rel =>
                refine ⟨j + 1, by omega, by omega, by go_num, fun i u h1 h2 hu => ?_, below_step hbel'.out (Nat.le_refl _) hb1, (hb1.block _ (by omega)).trans hbox'.out⟩
                by_cases e : i = j
                · subst e
                  have := htj'.out
                  rw [this] at hu; injection hu with hu; rw [← hu]; exact hit'.out
                · exact hpi'.out i u h1 (by omega) hu
              case measure => simp [intOf]; omega
          · have hjl : j = 3 := by omega
            have hgood2 := Lib.hid (hgood.out (by rw [hl'.out, ← hjl]; exact hpi'.out))
            clear hjl
            go_wp2_with fail
            go_ret
            exact ⟨ret_bool hgood2.out.symm, hbel'.out⟩
      · have hbad := Lib.hid (isT_bad (ps := ps) (fun h => by rw [hh] at h; first | exact hl | (rcases h with h | h <;> simp at h)) (fun h => by rw [hh] at h; first | exact hl | simp at h))
        have hb0 : ((ps.length : Int) != 3) = true := by rw [bne_iff_ne]; omega
        clear ha0 hh hl
        go_enter Try.func35, Try.ntmps35
        go_wp2_with fail
        refine (hcall'.out _ (by repeat (with_reducible first | exact hbel | exact Below.refl _ _ | refine Below.drew ?_ | refine Below.drewN ?_ _ | refine Below.alloc ?_ (by first | (simp; done) | (simp; omega) | omega | (have := Below.size hbel; simp; omega) | (have := Below.size hbel; omega)) _ | refine Below.setCell ?_ (by first | (simp; done) | (simp; omega) | omega) _))).mono ?_
        rintro e w0 ⟨rfl, hb1⟩
        have hbx := (hb1.block _ (by simp)).trans (heap_alloc_new w (.cells #[.string ⟨#[]⟩, .slice (some ⟨g, 0, none⟩) ps.length c] 32))
        obtain ⟨z0, q0, q1, -, -⟩ := two_cells hbx
        have hbelo := Lib.hid (below_step ((Below.refl _ _).alloc (Nat.le_refl _) _) (by simp) hb1)
        clear hb1 hbx
        go_wp2_with fail
        go_ret
        exact ⟨ret_bool hbad.out.symm, hbelo.out⟩
  · have hh : headOf ps = [42] := by rw [← ha0]; simpa using h42
    have hpart := Lib.hid (fun (j : Nat) (t : T) (hj : 1 ≤ j) (htj : ps[j]? = some t) (hb : isT t = false) => isT_part_bad (ps := ps) hj htj hb)
    by_cases hl : ps.length = 3
    · have hgood := Lib.hid (fun hp => isT_good (ps := ps) (by rw [hh, hl]; simp) hp)
      clear ha0 hh
      have hbx0 := heap_alloc_new w (.cells #[.string ⟨#[]⟩, .slice (some ⟨g, 0, none⟩) ps.length c] 32)
      have hl' := Lib.hid hl
      rw [hl] at hbx0 hcall'
      rw [hl]
      have hbx0' := Lib.hid hbx0
      clear hl hbx0
      go_enter Try.func35, Try.ntmps35
      go_wp2_with fail
      refine (hcall'.out _ (by repeat (with_reducible first | exact hbel | exact Below.refl _ _ | refine Below.drew ?_ | refine Below.drewN ?_ _ | refine Below.alloc ?_ (by first | (simp; done) | (simp; omega) | omega | (have := Below.size hbel; simp; omega) | (have := Below.size hbel; omega)) _ | refine Below.setCell ?_ (by first | (simp; done) | (simp; omega) | omega) _))).mono ?_
      rintro e w0 ⟨rfl, hb1⟩
      have hbx := (hb1.block _ (by simp)).trans hbx0'.out
      have hbelo := below_step ((Below.refl _ _).alloc (Nat.le_refl _) _) (by simp) hb1
      obtain ⟨z0, q0, q1, -, -⟩ := two_cells hbx
      have hbx' := Lib.hid hbx
      have hbelo' := Lib.hid hbelo
      clear hb1 hbx hbelo
      go_wp2_with fail
      go_loopw [4] (fun i wr => ∃ j : Nat, 1 ≤ j ∧ j ≤ 3 ∧ i = .int .i64 j ∧ partsIs ps j ∧ Below w.heap.size w wr ∧ wr.heap[w.heap.size]? = some (.cells #[.string ⟨#[]⟩, .slice (some ⟨g, 0, none⟩) 3 c] 32 (0, 0)))
        (fun i _ => 3 - (intOf i).toNat)
      case atStart => exact ⟨1, Nat.le_refl _, by omega, rfl, fun j t h1 h2 => absurd h1 (by omega), hbelo'.out, hbx'.out⟩
      case round =>
        obtain ⟨j, hj1, hj, rfl, hpi, hbel, hbox⟩ := hrel
        obtain ⟨z0, b0, b1, -, -⟩ := two_cells hbox
        have hpi' := Lib.hid hpi
        have hbox' := Lib.hid hbox
        have hbel' := Lib.hid hbel
        clear hbox hpi q0 q1
        by_cases hlt : j < 3
        · obtain ⟨t, htj⟩ : ∃ t, ps[j]? = some t := ⟨ps[j]'(by rw [hl'.out]; exact hlt), List.getElem?_eq_getElem _⟩
          obtain ⟨a1, p1, n1, c1, x0, x1, t1⟩ := hp'.out j t htj
          have y0 := (hbel.cell (p := ⟨g, j * 2, none⟩) hgw).trans x0
          have y1 := (hbel.cell (p := ⟨g, j * 2 + 1, none⟩) hgw).trans x1
          have htj' := Lib.hid htj
          have t1' := Lib.hid t1
          have htk : t.sz ≤ k := by have := T.sz_part htj; omega
          clear x0 x1 t1 htj hbel
          cases hit : isT t
          · go_wp2_with fail
            refine (H.out t _ D a1 p1 n1 c1 htk (t1'.out.below hbel'.out hD'.out) (fun g hg => by have := hD'.out g hg; omega)).mono ?_
            rintro e w1 ⟨rfl, hb1⟩
            have hff := Lib.hid (hpart.out j t hj1 htj'.out hit)
            go_wp2_with fail
            go_ret
            exact ⟨ret_bool hff.out.symm, below_step hbel'.out (Nat.le_refl _) hb1⟩
          · have hit' := Lib.hid hit
            go_wp2_with fail
            refine (H.out t _ D a1 p1 n1 c1 htk (t1'.out.below hbel'.out hD'.out) (fun g hg => by have := hD'.out g hg; omega)).mono ?_
            rintro e w1 ⟨rfl, hb1⟩
            go_wp2_with fail
            go_roundw
            case rel =>
              refine ⟨j + 1, by omega, by omega, by go_num, fun i u h1 h2 hu => ?_, below_step hbel'.out (Nat.le_refl _) hb1, (hb1.block _ (by omega)).trans hbox'.out⟩
              by_cases e : i = j
              · subst e
                have := htj'.out
                rw [this] at hu; injection hu with hu; rw [← hu]; exact hit'.out
              · exact hpi'.out i u h1 (by omega) hu
            case measure => simp [intOf]; omega
        · have hjl : j = 3 := by omega
          have hgood2 := Lib.hid (hgood.out (by rw [hl'.out, ← hjl]; exact hpi'.out))
          clear hjl
          go_wp2_with fail
          go_ret
          exact ⟨ret_bool hgood2.out.symm, hbel'.out⟩
    · have hbad := Lib.hid (isT_bad (ps := ps) (fun h => by rw [hh] at h; first | exact hl | (rcases h with h | h <;> simp at h)) (fun h => by rw [hh] at h; first | exact hl | simp at h))
      have hb0 : ((ps.length : Int) != 3) = true := by rw [bne_iff_ne]; omega
      clear ha0 hh hl
      go_enter Try.func35, Try.ntmps35
      go_wp2_with fail
      refine (hcall'.out _ (by repeat (with_reducible first | exact hbel | exact Below.refl _ _ | refine Below.drew ?_ | refine Below.drewN ?_ _ | refine Below.alloc ?_ (by first | (simp; done) | (simp; omega) | omega | (have := Below.size hbel; simp; omega) | (have := Below.size hbel; omega)) _ | refine Below.setCell ?_ (by first | (simp; done) | (simp; omega) | omega) _))).mono ?_
      rintro e w0 ⟨rfl, hb1⟩
      have hbx := (hb1.block _ (by simp)).trans (heap_alloc_new w (.cells #[.string ⟨#[]⟩, .slice (some ⟨g, 0, none⟩) ps.length c] 32))
      obtain ⟨z0, q0, q1, -, -⟩ := two_cells hbx
      have hbelo := Lib.hid (below_step ((Below.refl _ _).alloc (Nat.le_refl _) _) (by simp) hb1)
      clear hb1 hbx
      go_wp2_with fail
      go_ret
      exact ⟨ret_bool hbad.out.symm, hbelo.out⟩

theorem is_all : ∀ k, k ≤ 9001 → IS k := by
  intro k
  induction k with
  | zero => intro _ t w D a p n c hk; have := t.sz_pos; omega
  | succ k ih =>
    intro hk9 t w D a p n c hk ht hD
    match t, hk, ht with
    | .atom s, _, ht =>
      rw [TC] at ht
      obtain ⟨hs, rfl, rfl, rfl, rfl⟩ := ht
      exact is_atom s hs w
    | .node ps, hk, ht => exact is_node k (ih (by omega)) ps w D a p n c hk (by omega) ht hD

theorem is_bool (b : Bool) {t : T} (hb : isT t = b) (w : World) {D : Nat → Prop} {a : ByteArray} {p : Option Addr} {n c : Nat} (hk : t.sz ≤ 9000) (ht : TC w D t a p n c) (hD : ∀ g, D g → g < w.heap.size) :
    Calls Try.prog 35 #[.agg #[.string a, .slice p n c]] w fun e w' => e = .returned (.bool b) ∧ Below w.heap.size w w' :=
  (is_all 9000 (by omega) t w D a p n c hk ht hD).mono fun e w' ⟨he, hb'⟩ => ⟨by rw [he, hb], hb'⟩

end Go.Proofs.Ytagafoldkfgikaa
