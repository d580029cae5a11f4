/- spec.l1Text. -/
import Derived.Test.YtaagbnbekfogiaaGreatDoorHead
import Derived.Test.YtaagbnbekfogiaaGreatDoorReadF
namespace Go.Proofs.YtaagbnbekfogiaaGreatDoor
set_option linter.unusedVariables false
open Go.RowKit

def LX (k : Nat) : Prop := ∀ (t : T) (w : World) (D : Nat → Prop) (a : ByteArray) (p : Option Addr) (n c : Nat), t.sz ≤ k → t.text.length ≤ 20000 → TC w D t a p n c → (∀ g, D g → g < w.heap.size) →
  Calls Tryz.prog 42 #[.agg #[.string a, .slice p n c]] w fun e w' => e = .returned (.string ⟨t.text.toArray⟩) ∧ Below w.heap.size w w'

theorem text_atom (s : Bs) (hs : s ≠ []) (w : World) : Calls Tryz.prog 42 #[.agg #[.string ⟨s.toArray⟩, .slice none 0 0]] w fun e w' => e = .returned (.string ⟨s.toArray⟩) ∧ Below w.heap.size w w' := by
  have he : s.isEmpty = false := by cases s with
    | nil => exact absurd rfl hs
    | cons => rfl
  go_enter Tryz.func42, Tryz.ntmps42
  go_wp2_with fail
  go_ret
  exact ⟨rfl, (by repeat (with_reducible first | exact hbel | exact Below.refl _ _ | refine Below.drew ?_ | refine Below.drewN ?_ _ | refine Below.alloc ?_ (by first | (simp; done) | (simp; omega) | omega | (have := Below.size hbel; simp; omega) | (have := Below.size hbel; omega)) _ | refine Below.setCell ?_ (by first | (simp; done) | (simp; omega) | omega) _))⟩

theorem text_node (k : Nat) (H : Hid (LX k)) (ps : List T) (w : World) (D : Nat → Prop) (a : ByteArray) (p : Option Addr) (n c : Nat) (hk : (T.node ps).sz ≤ k + 1) (hk9 : k ≤ 9000) (htl : (T.node ps).text.length ≤ 20000)
    (ht : TC w D (.node ps) a p n c) (hD : ∀ g, D g → g < w.heap.size) :
    Calls Tryz.prog 42 #[.agg #[.string a, .slice p n c]] w fun e w' => e = .returned (.string ⟨(T.node ps).text.toArray⟩) ∧ Below w.heap.size w w' := by
  obtain ⟨rfl, rfl, g, rfl, hg, hp⟩ := ht.part
  have hlen : ps.length ≤ 9000 := by
    have h1 := length_sz ps
    rw [T.sz.eq_2] at hk
    omega
  have hp' := Lib.hid hp
  have hD' := Lib.hid hD
  have hgw := hD g hg
  have htl' : (textAll true ps).length ≤ 20000 := by rw [T.text.eq_2] at htl; simp at htl; omega
  clear hp ht hD hg htl
  go_enter Tryz.func42, Tryz.ntmps42
  go_wp2_with fail
  go_loopw [3, 4] (fun v i wr => ∃ (j : Nat) (A : ByteArray), j ≤ ps.length ∧ i = .int .i64 j ∧ v = .string A ∧ A.data.toList = 40 :: textAll true (ps.take j) ∧ Below w.heap.size w wr ∧ wr.heap[w.heap.size]? = some (.cells #[.string ⟨#[]⟩, .slice (some ⟨g, 0, none⟩) ps.length c] 29 (0, 0)))
    (fun _ i _ => ps.length - (intOf i).toNat)
  case atStart => exact ⟨0, _, Nat.zero_le _, rfl, rfl, rfl, (by repeat (with_reducible first | exact hbel | exact Below.refl _ _ | refine Below.drew ?_ | refine Below.drewN ?_ _ | refine Below.alloc ?_ (by first | (simp; done) | (simp; omega) | omega | (have := Below.size hbel; simp; omega) | (have := Below.size hbel; omega)) _ | refine Below.setCell ?_ (by first | (simp; done) | (simp; omega) | omega) _)), heap_alloc_new _ _⟩
  case round =>
    obtain ⟨j, A, hj, rfl, rfl, hA, hbel, hbox⟩ := hrel
    obtain ⟨z0, b0, b1, -, -⟩ := two_cells hbox
    have hAs : A.size ≤ 20001 := by have := textAll_take_le ps j; rw [ba_size, hA]; simp; omega
    have hA' := Lib.hid hA
    have hbox' := Lib.hid hbox
    have hbel' := Lib.hid hbel
    clear hbox hA
    by_cases hlt : j < ps.length
    · obtain ⟨t, htj⟩ : ∃ t, ps[j]? = some t := ⟨ps[j], List.getElem?_eq_getElem hlt⟩
      obtain ⟨a1, p1, n1, c1, x0, x1, t1⟩ := hp'.out j t htj
      have y0 := (hbel.cell (p := ⟨g, j * 2, none⟩) hgw).trans x0
      have y1 := (hbel.cell (p := ⟨g, j * 2 + 1, none⟩) hgw).trans x1
      have hst := Lib.hid (textAll_take htj)
      have hle := textAll_take_le ps (j + 1)
      have htt : t.text.length ≤ 20000 := by rw [hst.out] at hle; simp at hle; omega
      have t1' := Lib.hid t1
      have htk : t.sz ≤ k := by have := T.sz_part htj; omega
      obtain ⟨TT, hTT⟩ : ∃ TT : ByteArray, TT = ⟨t.text.toArray⟩ := ⟨_, rfl⟩
      have hTs : TT.size ≤ 20000 := by rw [hTT]; exact htt
      have hcall := H.out t _ D a1 p1 n1 c1 htk htt (t1.below hbel hD'.out) (fun g hg => by have := hD'.out g hg; omega)
      rw [← hTT] at hcall
      have hcall' := Lib.hid hcall
      have hTT' := Lib.hid hTT
      clear x0 x1 t1 htj hbel hle hcall hTT htt
      by_cases h0 : j = 0
      · subst h0
        go_wp2_with fail
        refine hcall'.out.mono ?_
        rintro e w1 ⟨rfl, hb1⟩
        go_wp2_with fail
        go_roundw
        case rel =>
          refine ⟨1, _, by omega, rfl, rfl, ?_, below_step hbel'.out (Nat.le_refl _) hb1, (hb1.block _ (by omega)).trans hbox'.out⟩
          rw [hst.out, ByteArray.data_append, Array.toList_append, hA'.out, hTT'.out]; simp
        case measure => simp [intOf]; omega
      · go_wp2_with fail
        refine hcall'.out.mono ?_
        rintro e w1 ⟨rfl, hb1⟩
        go_wp2_with fail
        go_roundw
        case rel =>
          refine ⟨j + 1, _, by omega, by go_num, rfl, ?_, below_step hbel'.out (Nat.le_refl _) hb1, (hb1.block _ (by omega)).trans hbox'.out⟩
          rw [hst.out, ByteArray.data_append, Array.toList_append, ByteArray.data_append, Array.toList_append, hA'.out, hTT'.out]; simp [h0]
        case measure => simp [intOf]; omega
    · have hfin : Hid (A ++ ⟨#[41]⟩ = ⟨(T.node ps).text.toArray⟩) := by
        have e := hA'.out
        rw [show j = ps.length from by omega, List.take_length] at e
        apply ByteArray.ext
        rw [ByteArray.data_append, T.text.eq_2]
        apply Array.toList_inj.1
        rw [Array.toList_append, e]
      go_wp2_with fail
      go_ret
      exact ⟨by rw [← hfin.out]; rfl, hbel'.out⟩

theorem text_all : ∀ k, k ≤ 9001 → LX k := by
  intro k
  induction k with
  | zero => intro _ t w D a p n c hk; have := t.sz_pos; omega
  | succ k ih =>
    intro hk9 t w D a p n c hk hl ht hD
    match t, hk, hl, ht with
    | .atom s, _, _, ht =>
      rw [TC] at ht
      obtain ⟨hs, rfl, rfl, rfl, rfl⟩ := ht
      exact text_atom s hs w
    | .node ps, hk, hl, ht => exact text_node k (ih (by omega)) ps w D a p n c hk (by omega) hl ht hD

end Go.Proofs.YtaagbnbekfogiaaGreatDoor
