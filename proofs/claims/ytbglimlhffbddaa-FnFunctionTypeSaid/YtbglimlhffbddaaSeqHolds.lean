/- Sequents: whether they hold; impl.SequentHolds. -/
import Derived.Test.YtbglimlhffbddaaSeq
namespace Go.Proofs.Ytbglimlhffbddaa
set_option linter.unusedVariables false
open Go.RowKit

def seqHolds (L : List ByteArray) (fs gs : List F) : Bool := fs.any (fun f => !f.holds L) || gs.any (fun g => g.holds L)

theorem any_take {α : Type} (p : α → Bool) {fs : List α} {j : Nat} {f : α} (h : fs[j]? = some f) (h0 : (fs.take j).any p = false) : (fs.take (j + 1)).any p = p f := by
  rw [List.take_add_one, h, List.any_append, h0]; simp
theorem any_upto {α : Type} (p : α → Bool) {fs : List α} {k : Nat} (h : (fs.take k).any p = true) : fs.any p = true := by
  rw [← List.take_append_drop k fs, List.any_append, h]; rfl

theorem sqHolds_any (L : List ByteArray) (b : Nat) (lo : Nat) (A B : Option Addr) (n c m d : Nat) (fs gs : List F) (w : World) (ht : TR w b L) (hf : RowF lo w A n fs) (hg : RowF lo w B m gs)
    (of : ∀ f ∈ fs, f.ok = true) (og : ∀ g ∈ gs, g.ok = true) (hn : n ≤ 1000) (hm : m ≤ 1000) :
    Calls Try.prog 26 #[.agg #[.slice A n c, .slice B m d], .map (some b)] w fun e w' => e = .returned (.bool (seqHolds L fs gs)) ∧ Below w.heap.size w w' := by
  have hS := two_kept w (.slice A n c) (.slice B m d) 47
  have hf' := Lib.hid hf
  have hg' := Lib.hid hg
  have ht' := Lib.hid ht
  have hlf := Lib.hid hf.1
  have hlg := Lib.hid hg.1
  have hA := Lib.hid (fun f (h : f ∈ fs) W (hW : Below w.heap.size w W) => hd_any f (of f h) L b W (ht.below hW))
  have hB := Lib.hid (fun f (h : f ∈ gs) W (hW : Below w.heap.size w W) => hd_any f (og f h) L b W (ht.below hW))
  have yes : Hid (∀ k W, Below w.heap.size w W → (fs.take k).any (fun f => !f.holds L) = true → (.returned (.bool true) : Ending) = .returned (.bool (seqHolds L fs gs)) ∧ Below w.heap.size w W) := Lib.hid fun k W hb h => by
    rw [seqHolds, any_upto _ h]; exact ⟨rfl, hb⟩
  have yes2 : Hid (∀ k W, Below w.heap.size w W → (gs.take k).any (fun f => f.holds L) = true → (.returned (.bool true) : Ending) = .returned (.bool (seqHolds L fs gs)) ∧ Below w.heap.size w W) := Lib.hid fun k W hb h => by
    rw [seqHolds, any_upto _ h, Bool.or_true]; exact ⟨rfl, hb⟩
  have no : Hid (∀ W, Below w.heap.size w W → fs.any (fun f => !f.holds L) = false → gs.any (fun f => f.holds L) = false → (.returned (.bool false) : Ending) = .returned (.bool (seqHolds L fs gs)) ∧ Below w.heap.size w W) := Lib.hid fun W hb h h' => by
    rw [seqHolds, h, h']; exact ⟨rfl, hb⟩
  generalize seqHolds L fs gs = z at *
  clear hf hg ht of og
  go_enter Try.func26, Try.ntmps26
  go_wp2_with fail
  go_loopw [12] (fun i wr => ∃ j : Nat, j ≤ n ∧ i = .int .i64 j ∧ (fs.take j).any (fun f => !f.holds L) = false ∧ Below w.heap.size w wr ∧ Below (w.heap.size + 1) (w.alloc (.cells #[.slice A n c, .slice B m d] 47)) wr)
    (fun i _ => n - (intOf i).toNat)
  case atStart => exact ⟨0, Nat.zero_le _, rfl, rfl, (Below.refl _ _).alloc (Nat.le_refl _) _, Below.refl _ _⟩
  case round =>
    obtain ⟨j, hj, rfl, hall, hbel, hbx⟩ := hrel
    by_cases hlt : j < n
    · obtain ⟨g, o, rfl, ⟨-, hblt⟩, hc⟩ := hf'.out.2 (by omega)
      have l1 : j < fs.length := by have := hlf.out; omega
      obtain ⟨f, hfj⟩ : ∃ f, fs[j]? = some f := ⟨fs[j], List.getElem?_eq_getElem l1⟩
      have x1 := (hbel.cell (p := ⟨g, o + j, none⟩) hblt).trans (hc j f hfj)
      have hcall := Lib.hid (hA.out f (List.mem_of_getElem? hfj) wr hbel)
      have ma := fun w => holds_method f w
      have ca := fun x y w => holds_call f x y w
      have htk := Lib.hid (any_take (fun f => !f.holds L) hfj hall)
      have i1 : (j : Int) < (n : Int) := by omega
      have i0' : (0 : Int) ≤ (j : Int) := by omega
      have hbel' := Lib.hid hbel
      have hbx' := Lib.hid hbx
      generalize F.holds L f = r at *
      clear hc hall hbel hbx hfj
      go_wp2_with fail
      refine hcall.out.mono ?_
      rintro e w1 ⟨rfl, hb1⟩
      have hb1' := Lib.hid (below_step hbel'.out (Nat.le_refl _) hb1)
      have hbx1 := Lib.hid (hbx'.out.trans (hb1.mono (by have := hbx'.out.size; simpa using this)))
      clear hb1
      cases r
      · go_wp2_with fail
        go_ret
        exact yes.out (j + 1) _ hb1'.out htk.out
      · go_wp2_with fail
        go_roundw
        case rel => exact ⟨j + 1, by omega, by go_num, htk.out, hb1'.out, hbx1.out⟩
        case measure => simp [intOf]; omega
    · have hall' : Hid (fs.any (fun f => !f.holds L) = false) := Lib.hid (by rw [List.take_of_length_le (by have := hlf.out; omega)] at hall; exact hall)
      obtain ⟨x0, x1⟩ := hS.out wr hbx
      have hbel' := Lib.hid hbel
      clear hall hbel hbx hf'
      go_wp2_with fail
      go_loopw [24] (fun i ws => ∃ j : Nat, j ≤ m ∧ i = .int .i64 j ∧ (gs.take j).any (fun f => f.holds L) = false ∧ Below w.heap.size w ws)
        (fun i _ => m - (intOf i).toNat)
      case atStart => exact ⟨0, Nat.zero_le _, rfl, rfl, hbel'.out⟩
      case round =>
        obtain ⟨k, hk, rfl, hall, hbel⟩ := hrel
        by_cases hlt2 : k < m
        · obtain ⟨g, o, rfl, ⟨-, hblt⟩, hc⟩ := hg'.out.2 (by omega)
          have l1 : k < gs.length := by have := hlg.out; omega
          obtain ⟨f, hfj⟩ : ∃ f, gs[k]? = some f := ⟨gs[k], List.getElem?_eq_getElem l1⟩
          have y1 := (hbel.cell (p := ⟨g, o + k, none⟩) hblt).trans (hc k f hfj)
          have hcall := Lib.hid (hB.out f (List.mem_of_getElem? hfj) wr hbel)
          have ma := fun w => holds_method f w
          have ca := fun x y w => holds_call f x y w
          have htk := Lib.hid (any_take (fun f => f.holds L) hfj hall)
          have i1 : (k : Int) < (m : Int) := by omega
          have i0' : (0 : Int) ≤ (k : Int) := by omega
          have hbel' := Lib.hid hbel
          generalize F.holds L f = r at *
          clear hc hall hbel hfj
          go_wp2_with fail
          refine hcall.out.mono ?_
          rintro e w1 ⟨rfl, hb1⟩
          have hb1' := Lib.hid (below_step hbel'.out (Nat.le_refl _) hb1)
          clear hb1
          cases r
          · go_wp2_with fail
            go_roundw
            case rel => exact ⟨k + 1, by omega, by go_num, htk.out, hb1'.out⟩
            case measure => simp [intOf]; omega
          · go_wp2_with fail
            go_ret
            exact yes2.out (k + 1) _ hb1'.out htk.out
        · have hall2 : Hid (gs.any (fun f => f.holds L) = false) := Lib.hid (by rw [List.take_of_length_le (by have := hlg.out; omega)] at hall; exact hall)
          have hbel' := Lib.hid hbel
          clear hall hbel
          go_wp2_with fail
          go_ret
          exact no.out _ hbel'.out hall'.out hall2.out

end Go.Proofs.Ytbglimlhffbddaa
