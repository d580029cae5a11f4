/- spec.l3Match: letters. -/
import Derived.Test.YtdbdcfijeeelkaaMathI
import Derived.Test.YtdbdcfijeeelkaaWithS
import Derived.Test.YtdbdcfijeeelkaaTextF
import Derived.Test.YtdbdcfijeeelkaaHead
import Derived.Test.YtdbdcfijeeelkaaStrs
import Derived.Deep.RegionHeld3
import Derived.BigQuiet
import Derived.Deep.Cut
import Derived.Deep.CutRange
import Derived.Deep.CutBlock
namespace Go.Proofs.Ytdbdcfijeeelkaa
set_option linter.unusedVariables false
open Go.RowKit

/-- Two rows hold what is put for letters, the oldest first. -/
def MR (w : World) (M : AL) (x y : Value) : Prop := ∃ (lo lo' : Nat) (A B : Option Addr) (c d : Nat), x = .slice A M.length c ∧ y = .slice B M.length d ∧
  w.ownsRow lo 9 1 (.slice A M.length c) M.length ((M.reverse.map fun p => bs' p.1).map Value.string) ∧ w.ownsRow lo' 9 1 (.slice B M.length d) M.length ((M.reverse.map fun p => bs' p.2).map Value.string)
theorem MR.below {w w' : World} {M : AL} {x y : Value} (h : MR w M x y) (hb : Below w.heap.size w w') : MR w' M x y := by
  obtain ⟨lo, lo', A, B, c, d, hx, hy, h1, h2⟩ := h
  exact ⟨lo, lo', A, B, c, d, hx, hy, own_below h1 hb, own_below h2 hb⟩
theorem MR.cons {w : World} {M : AL} {s t : Bs} {tx : ByteArray} {A B : Option Addr} {c d lo lo' : Nat} (ht : (⟨t.toArray⟩ : ByteArray) = tx)
    (h1 : w.ownsRow lo 9 1 (.slice A (M.length + 1) c) (M.length + 1) (((M.reverse.map fun p : Bs × Bs => bs' p.1) ++ [(⟨s.toArray⟩ : ByteArray)]).map Value.string))
    (h2 : w.ownsRow lo' 9 1 (.slice B (M.length + 1) d) (M.length + 1) (((M.reverse.map fun p : Bs × Bs => bs' p.2) ++ [tx]).map Value.string)) : MR w ((s, t) :: M) (.slice A (M.length + 1) c) (.slice B (M.length + 1) d) := by
  subst ht
  exact ⟨lo, lo', A, B, c, d, rfl, rfl, by rw [List.reverse_cons, List.map_append]; exact h1, by rw [List.reverse_cons, List.map_append]; exact h2⟩
def MPost (o : Option AL) (w : World) (e : Ending) (w' : World) : Prop := Below w.heap.size w w' ∧ ∃ x y, e = .returned (.tuple #[x, y, .bool o.isSome]) ∧ ∀ M, o = some M → MR w' M x y
def MT (f : F) : Prop := ∀ (g : F) (M : AL) (w : World) (D : Nat → Prop) (a : ByteArray) (p : Option Addr) (n c : Nat) (a2 : ByteArray) (p2 : Option Addr) (n2 c2 : Nat) (x y : Value),
  f.ok = true → g.ok = true → g.size ≤ 1000 → M.length + f.size ≤ 90000000 → (M.map Prod.fst).Nodup → TC w D f.tree a p n c → TC w D g.tree a2 p2 n2 c2 → (∀ g, D g → g < w.heap.size) → MR w M x y →
  Calls Try.prog 29 #[.agg #[.string a, .slice p n c], .agg #[.string a2, .slice p2 n2 c2], x, y] w (MPost (inst f g M) w)

theorem toList_mk (s : Bs) : (⟨s.toArray⟩ : ByteArray).toList = s := by rw [Lib.toList_data]

set_option maxRecDepth 100000 in
set_option maxHeartbeats 1500000 in
theorem mt_lt (s : Bs) : MT (.lt s) := by
  intro g M w D a p n c a2 p2 n2 c2 x y hf hg hg6 hml hnd ht ht2 hD hmr
  rw [F.tree, TC] at ht
  obtain ⟨hne, rfl, rfl, rfl, rfl⟩ := ht
  obtain ⟨lo, lo', A, B, c1, d1, rfl, rfl, ownA, ownB⟩ := hmr
  have he : s.isEmpty = false := by cases s with
    | nil => exact absurd rfl hne
    | cons => rfl
  have hne2 : (s == []) = false := by rw [beq_eq_false_iff_ne]; exact hne
  have hne3 : (s != []) = true := by rw [bne_iff_ne]; exact hne
  rw [show inst (.lt s) g M = instL s g.text M from by cases g <;> rfl]
  have hml' : M.length ≤ 90000000 := by omega
  have htx := Lib.hid (fun W (hW : Below w.heap.size w W) => text_calls hg (by omega) (ht2.below hW hD) (fun g hg => Nat.lt_of_lt_of_le (hD g hg) hW.size))
  have hRA := Lib.hid (fun W (hW : Below w.heap.size w W) => (RowS.of_own ownA).below hW)
  have hRB := Lib.hid (fun W (hW : Below w.heap.size w W) => (RowS.of_own ownB).below hW)
  have hWA := Lib.hid (fun W (hW : Below w.heap.size w W) => with_any A M.length c1 lo _ ⟨s.toArray⟩ W (own_below ownA hW) (by omega))
  have hWB := Lib.hid (fun W (hW : Below w.heap.size w W) => with_any B M.length d1 lo' _ ⟨g.text.toArray⟩ W (own_below ownB hW) (by omega))
  have hsame := Lib.hid (fun W (hW : Below w.heap.size w W) => (show MR W M (.slice A M.length c1) (.slice B M.length d1) from ⟨lo, lo', A, B, c1, d1, rfl, rfl, own_below ownA hW, own_below ownB hW⟩))
  have hnd' := Lib.hid hnd
  clear ht2 hD ownA ownB hf hg hg6 hml hne hnd
  go_enter Try.func29, Try.ntmps29
  go_wp2_with fail
  go_loopw [11] (fun i wr => ∃ j : Nat, j ≤ M.length ∧ i = .int .i64 j ∧ s ∉ (M.reverse.take j).map Prod.fst ∧ Below (w.heap.size + 2) ((w.alloc (.cells #[.string ⟨s.toArray⟩, .slice none 0 0] 57)).alloc (.cells #[.string a2, .slice p2 n2 c2] 57)) wr) (fun i _ => M.length - (intOf i).toNat)
  case atStart => exact ⟨0, Nat.zero_le _, rfl, by simp, Below.refl _ _⟩
  case round =>
    obtain ⟨j, hj, rfl, hni, hbel0⟩ := hrel
    have hsz := hbel0.size
    simp at hsz
    obtain ⟨z0, b0, b1, -, -⟩ := two_cells ((hbel0.block w.heap.size (by omega)).trans (first_alloc w _ _))
    obtain ⟨z1, r0, r1, -, -⟩ := two_cells ((hbel0.block (w.heap.size + 1) (by omega)).trans (second_alloc w _ _))
    have hbw : Below w.heap.size w wr := below_step (((Below.refl _ _).alloc (Nat.le_refl _) _).alloc (by simp) _ : Below w.heap.size w ((w.alloc _).alloc _)) (by simp) (hbel0.mono (by simp))
    have hbw' := Lib.hid hbw
    have hbel0' := Lib.hid hbel0
    clear hbel0
    by_cases hlt : j < M.length
    · obtain ⟨⟨k, v⟩, hkv⟩ : ∃ q, M.reverse[j]? = some q := ⟨M.reverse[j]'(by simpa using hlt), List.getElem?_eq_getElem _⟩
      obtain ⟨bA, oA, hAe, hbA, hcA⟩ := (hRA.out wr hbw).2 (by omega)
      obtain ⟨bB, oB, hBe, hbB, hcB⟩ := (hRB.out wr hbw).2 (by omega)
      subst hAe hBe
      have xA := hcA j (bs' k) (by rw [List.getElem?_map, hkv]; rfl)
      have xB := hcB j (bs' v) (by rw [List.getElem?_map, hkv]; rfl)
      rw [show bs' k = ⟨k.toArray⟩ from rfl] at xA
      rw [show bs' v = ⟨v.toArray⟩ from rfl] at xB
      have i1 : (j : Int) < (M.length : Int) := by omega
      have i0 : (0 : Int) ≤ (j : Int) := by omega
      have hmem := Lib.hid (show (k, v) ∈ M from by rw [← List.mem_reverse]; exact List.mem_of_getElem? hkv)
      have hkv' := Lib.hid hkv
      have hni' := Lib.hid hni
      have hS : Hid (∀ W', Below wr.heap.size wr W' → W'.cell? ⟨bB, oB + j, none⟩ = some (.string ⟨v.toArray⟩) ∧ W'.cell? ⟨w.heap.size + 1, 0, none⟩ = some (.string a2) ∧ W'.cell? ⟨w.heap.size + 1, 1, none⟩ = some (.slice p2 n2 c2)) := Lib.hid fun W' h =>
        ⟨(h.cell (p := ⟨bB, oB + j, none⟩) hbB).trans xB, (h.cell (p := ⟨w.heap.size + 1, 0, none⟩) z1).trans r0, (h.cell (p := ⟨w.heap.size + 1, 1, none⟩) z1).trans r1⟩
      clear hcA hcB hkv hni hbw
      by_cases hks : k = s
      · subst hks
        have hkk : (k == k) = true := by simp
        rw [instL_some (aget_some hnd'.out hmem.out)]
        generalize ho : (if v = g.text then some M else none) = o
        have hob : Hid (o.isSome = (v == g.text)) := Lib.hid (by
          rw [← ho]
          by_cases hv : v = g.text
          · simp [hv]
          · simp [hv])
        have hoM : Hid (∀ M1, o = some M1 → M1 = M) := Lib.hid (by
          intro M1 h1
          rw [← ho] at h1
          by_cases hv : v = g.text
          · rw [if_pos hv] at h1; injection h1 with h1; exact h1.symm
          · rw [if_neg hv] at h1; cases h1)
        clear ho
        go_upto_region 5 with fail
        go_quiet (fail)
        go_upto_region 6 with fail
        all_goals
          (go_region_held3 (fun W' => W'.cell? ⟨bB, oB + j, none⟩ = some (.string ⟨v.toArray⟩) ∧ W'.cell? ⟨w.heap.size + 1, 0, none⟩ = some (.string a2) ∧ W'.cell? ⟨w.heap.size + 1, 1, none⟩ = some (.slice p2 n2 c2))
            (first | exact hS.out _ (by repeat (with_reducible first | exact Below.refl _ _ | exact hbb | refine Below.drew ?_ | refine Below.drewN ?_ _ | refine bb_alloc ?_ _ | refine below_step ?_ (Nat.le_refl _) hb1 | refine below_step ?_ (Nat.le_refl _) hb2 | refine below_step ?_ (Nat.le_refl _) hb3 | refine below_step ?_ (Nat.le_refl _) hb4)))
            (first | (go_at_call 34; refine Calls.mono (htx.out _ (below_step hbw'.out (Nat.le_refl _) (by repeat (with_reducible first | exact Below.refl _ _ | exact hbb | refine Below.drew ?_ | refine Below.drewN ?_ _ | refine bb_alloc ?_ _ | refine below_step ?_ (Nat.le_refl _) hb1 | refine below_step ?_ (Nat.le_refl _) hb2 | refine below_step ?_ (Nat.le_refl _) hb3 | refine below_step ?_ (Nat.le_refl _) hb4)))) ?_; rintro e w1 ⟨rfl, hb1⟩)))
        all_goals
          go_wp2_with fail
          go_ret3
          have hB : Below w.heap.size w w1 := below_step hbw'.out (Nat.le_refl _) (by repeat (with_reducible first | exact Below.refl _ _ | exact hbb | refine Below.drew ?_ | refine Below.drewN ?_ _ | refine bb_alloc ?_ _ | refine below_step ?_ (Nat.le_refl _) hb1 | refine below_step ?_ (Nat.le_refl _) hb2 | refine below_step ?_ (Nat.le_refl _) hb3 | refine below_step ?_ (Nat.le_refl _) hb4))
          refine ⟨hB, .slice (some ⟨bA, oA, none⟩) M.length c1, .slice (some ⟨bB, oB, none⟩) M.length d1, by rw [hob.out]; rfl, fun M1 h => ?_⟩
          rw [hoM.out M1 h]
          exact hsame.out _ hB
      · have hkk : (k == s) = false := by rw [beq_eq_false_iff_ne]; exact hks
        go_upto_region 5 with fail
        go_quiet (fail)
        go_wp2_with fail
        go_roundw
        case rel => exact ⟨j + 1, by omega, by go_num, by
          rw [List.take_add_one, hkv'.out, List.map_append, List.mem_append]
          intro h
          rcases h with h | h
          · exact hni'.out h
          · simp at h; exact hks h.symm, Below.drewN hbel0'.out _⟩
        case measure => simp [intOf]; omega
    · have hj2 : j = M.length := by omega
      subst hj2
      have hin := Lib.hid (instL_none (t := g.text) (aget_none.2 (by
        intro h
        apply hni
        rw [List.take_of_length_le (by simp), List.map_reverse, List.mem_reverse]
        exact h)))
      have hS : Hid (∀ W', Below wr.heap.size wr W' → W'.cell? ⟨w.heap.size, 0, none⟩ = some (.string ⟨s.toArray⟩) ∧ W'.cell? ⟨w.heap.size + 1, 0, none⟩ = some (.string a2) ∧ W'.cell? ⟨w.heap.size + 1, 1, none⟩ = some (.slice p2 n2 c2)) := Lib.hid fun W' h =>
        ⟨(h.cell (p := ⟨w.heap.size, 0, none⟩) z0).trans b0, (h.cell (p := ⟨w.heap.size + 1, 0, none⟩) z1).trans r0, (h.cell (p := ⟨w.heap.size + 1, 1, none⟩) z1).trans r1⟩
      clear hni hbw
      generalize htxe : (⟨g.text.toArray⟩ : ByteArray) = tx at *
      have htxe' := Lib.hid htxe
      clear htxe
      go_upto_region 7 with fail
      go_region_held3 (fun W' => W'.cell? ⟨w.heap.size, 0, none⟩ = some (.string ⟨s.toArray⟩) ∧ W'.cell? ⟨w.heap.size + 1, 0, none⟩ = some (.string a2) ∧ W'.cell? ⟨w.heap.size + 1, 1, none⟩ = some (.slice p2 n2 c2))
        (first | exact hS.out _ (by repeat (with_reducible first | exact Below.refl _ _ | exact hbb | refine Below.drew ?_ | refine Below.drewN ?_ _ | refine bb_alloc ?_ _ | refine below_step ?_ (Nat.le_refl _) hb1 | refine below_step ?_ (Nat.le_refl _) hb2 | refine below_step ?_ (Nat.le_refl _) hb3 | refine below_step ?_ (Nat.le_refl _) hb4)))
        (first
          | (go_at_call 34; refine Calls.mono (htx.out _ (below_step hbw'.out (Nat.le_refl _) (by repeat (with_reducible first | exact Below.refl _ _ | exact hbb | refine Below.drew ?_ | refine Below.drewN ?_ _ | refine bb_alloc ?_ _ | refine below_step ?_ (Nat.le_refl _) hb1 | refine below_step ?_ (Nat.le_refl _) hb2 | refine below_step ?_ (Nat.le_refl _) hb3 | refine below_step ?_ (Nat.le_refl _) hb4)))) ?_; rintro e w1 ⟨rfl, hb1⟩)
          | (go_at_call_of 45 A; refine Calls.mono (hWA.out _ (below_step hbw'.out (Nat.le_refl _) (by repeat (with_reducible first | exact Below.refl _ _ | exact hbb | refine Below.drew ?_ | refine Below.drewN ?_ _ | refine bb_alloc ?_ _ | refine below_step ?_ (Nat.le_refl _) hb1 | refine below_step ?_ (Nat.le_refl _) hb2 | refine below_step ?_ (Nat.le_refl _) hb3 | refine below_step ?_ (Nat.le_refl _) hb4)))) ?_; rintro e w2 ⟨A3, c3, rfl, own2, hb2⟩)
          | (go_at_call_of 45 B; refine Calls.mono (hWB.out _ (below_step hbw'.out (Nat.le_refl _) (by repeat (with_reducible first | exact Below.refl _ _ | exact hbb | refine Below.drew ?_ | refine Below.drewN ?_ _ | refine bb_alloc ?_ _ | refine below_step ?_ (Nat.le_refl _) hb1 | refine below_step ?_ (Nat.le_refl _) hb2 | refine below_step ?_ (Nat.le_refl _) hb3 | refine below_step ?_ (Nat.le_refl _) hb4)))) ?_; rintro e w3 ⟨B3, d3, rfl, own3, hb3⟩))
      all_goals
        go_wp2_with fail
        go_ret3
        refine ⟨below_step hbw'.out (Nat.le_refl _) (by repeat (with_reducible first | exact Below.refl _ _ | exact hbb | refine Below.drew ?_ | refine Below.drewN ?_ _ | refine bb_alloc ?_ _ | refine below_step ?_ (Nat.le_refl _) hb1 | refine below_step ?_ (Nat.le_refl _) hb2 | refine below_step ?_ (Nat.le_refl _) hb3 | refine below_step ?_ (Nat.le_refl _) hb4)), .slice A3 (M.length + 1) c3, .slice B3 (M.length + 1) d3, by rw [hin.out]; rfl, fun M1 h => ?_⟩
        rw [hin.out] at h
        injection h with h
        subst h
        exact MR.cons htxe'.out (own_below own2 (by repeat (with_reducible first | exact Below.refl _ _ | exact hbb | refine Below.drew ?_ | refine Below.drewN ?_ _ | refine bb_alloc ?_ _ | refine below_step ?_ (Nat.le_refl _) hb1 | refine below_step ?_ (Nat.le_refl _) hb2 | refine below_step ?_ (Nat.le_refl _) hb3 | refine below_step ?_ (Nat.le_refl _) hb4))) (own_below own3 (by repeat (with_reducible first | exact Below.refl _ _ | exact hbb | refine Below.drew ?_ | refine Below.drewN ?_ _ | refine bb_alloc ?_ _ | refine below_step ?_ (Nat.le_refl _) hb1 | refine below_step ?_ (Nat.le_refl _) hb2 | refine below_step ?_ (Nat.le_refl _) hb3 | refine below_step ?_ (Nat.le_refl _) hb4)))

end Go.Proofs.Ytdbdcfijeeelkaa
