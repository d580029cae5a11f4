/- Assignments made: impl.truthsOf. -/
import Derived.Test.YtbglimlhffbddaaArgs
import Derived.Test.YtbglimlhffbddaaHolds
namespace Go.Proofs.Ytbglimlhffbddaa
set_option linter.unusedVariables false
open Go.RowKit Go.Maps

/-- What truthsOf hands back: a new map of just these letters. -/
def TMPost (L : List ByteArray) (w : World) (e : Ending) (w' : World) : Prop := ∃ b, e = .returned (.map (some b)) ∧ w.heap.size ≤ b ∧ TR w' b L ∧ Below w.heap.size w w'

theorem truths_any (A : Option Addr) (n c : Nat) (ss : List ByteArray) (w : World) (hr : ArgS w A n ss) (hn : n ≤ 10000000) :
    Calls Try.prog 27 #[.slice A n c] w (TMPost ss w) := by
  have hmm := @run_makeMap Try.prog
  have hr' := Lib.hid hr
  have hl := Lib.hid hr.1.1
  clear hr
  go_enter Try.func27, Try.ntmps27
  go_wp2_with fail
  go_loopw [9] (fun i wr => ∃ j : Nat, j ≤ n ∧ i = .int .i64 j ∧ wr.ownsMap (H := Unit) Try.prog 9 (plainElem Try.prog 4) w.heap.size j (mapD (ss.take j)) ∧ Below w.heap.size w wr)
    (fun i _ => n - (intOf i).toNat)
  case atStart => exact ⟨0, Nat.zero_le _, rfl, World.ownsMap_made _ _ _ _, (Below.refl _ _).alloc (Nat.le_refl _) _⟩
  case round =>
    obtain ⟨j, hj, rfl, hown, hbel⟩ := hrel
    by_cases hlt : j < n
    · obtain ⟨b, o, rfl, hblt, hc⟩ := hr'.out.1.2 (by omega)
      have l1 : j < ss.length := by have := hl.out; omega
      have x1 := (hbel.cell (p := ⟨b, o + j, none⟩) hblt).trans (hc j ss[j] (List.getElem?_eq_getElem l1))
      have hsz := hr'.out.2 _ (List.getElem_mem l1)
      have htake : mapD (ss.take (j + 1)) = (mapD (ss.take j)).put (.string ss[j].data.toList) (.lit (.bool true)) := by rw [List.take_succ_eq_append_getElem l1, mapD_snoc]
      generalize ss[j] = t at x1 hsz htake
      have hkey := keyOf_str hsz
      have i1 : (j : Int) < (n : Int) := by omega
      have i0 : (0 : Int) ≤ (j : Int) := by omega
      have htake' := Lib.hid htake
      have hown' := Lib.hid hown
      have hbel' := Lib.hid hbel
      clear hc htake hown hsz
      go_wp2_with (at_mapUpdate; refine wpList_mapUpdate_own _ rfl _ _ _ 75 rfl 9 4 keyStr Try.underlying75 (plainElem (H := Unit) Try.prog 4) w.heap.size j _ rfl hown'.out (by unfold maxLen; omega) _ _ _ rfl rfl hkey _ [] (elemBool true) ?_; intro w1 hown1 hgrow1)
      have hown1' := Lib.hid hown1
      have hgrow1' := Lib.hid hgrow1
      clear hown1 hgrow1
      go_roundw
      case rel =>
        refine ⟨j + 1, by omega, by go_num, ?_, hbel'.out.grown hgrow1'.out (by have := hbel'.out.size; omega) (fun k hk => by cases hk; exact Nat.le_refl _)⟩
        rw [htake'.out]
        exact hown1'.out
      case measure => simp [intOf]; omega
    · have hfin : Hid (TMPost ss w (.returned (.map (some w.heap.size))) wr) := by
        rw [List.take_of_length_le (by have := hl.out; omega)] at hown
        exact ⟨_, rfl, Nat.le_refl _, ⟨_, hown⟩, hbel⟩
      clear hown hbel
      go_wp2_with fail
      go_ret
      exact hfin.out

end Go.Proofs.Ytbglimlhffbddaa
