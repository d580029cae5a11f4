/- impl.ProgramFree. -/
import Derived.Test.YtagafoldkfgikaaFreeI
namespace Go.Proofs.Ytagafoldkfgikaa
set_option linter.unusedVariables false
open Go.RowKit

def bs (s : Bs) : ByteArray := ⟨s.toArray⟩
def freeO : Option P → List ByteArray
  | none => []
  | some p => (freeL p).map bs
theorem freeL_len (p : P) : (freeL p).length ≤ p.size := by
  have := foldl_len p.uses []; have := p.uses_len; unfold freeL; simp at *; omega
theorem freeL_name {p : P} (hok : p.ok = true) : ∀ s ∈ freeL p, isName s = true := fun s hs => by
  unfold freeL at hs
  rw [foldl_mem] at hs
  rcases hs with hs | hs
  · cases hs
  · exact P.uses_name hok s hs

set_option maxRecDepth 100000 in
theorem implFree_any (s : ByteArray) (w : World) : Calls Try.prog 6 #[.string s] w (SRet (freeO (readP s.data.toList)) (readP s.data.toList).isSome w) := by
  generalize hz : readP s.data.toList = o
  have hz' := Lib.hid hz
  clear hz
  go_enter Try.func6, Try.ntmps6
  go_wp2_with fail
  refine Calls.mono (readProgram_any s _) ?_
  intro e w1 hm
  rw [hz'.out] at hm
  cases o with
  | none =>
    obtain ⟨hb1, rfl⟩ := hm
    go_wp2_with fail
    go_ret2
    exact ⟨none, 0, rfl, World.ownsRow_nil _ _ _ _, hb1⟩
  | some p =>
    have hok := (readP_ok hz'.out).1
    have h5 := (readP_ok hz'.out).2.1
    obtain ⟨hb1, y, rfl, hy⟩ := hm
    have hcF := Lib.hid (freeNames_any hok (by omega) w1 _ y hy (fun g hg => hg.2))
    have hfl := freeL_len p
    have hfn := Lib.hid (freeL_name hok)
    have hgoal := Lib.hid (show freeO (some p) = (freeL p).map bs from rfl)
    have hb1' := Lib.hid hb1
    generalize freeL p = l at *
    clear hy hb1
    go_wp2_with fail
    refine Calls.mono hcF.out ?_
    rintro e w2 ⟨A, c, rfl, own, hb2⟩
    have hr' := Lib.hid (RowN.of_own own)
    have hb2' := Lib.hid (below_step hb1'.out (Nat.le_refl _) hb2)
    clear own hb2
    go_wp2_with fail
    refine Calls.mono (nameTexts_any A _ c l hfn.out (by omega) _ hr'.out) ?_
    rintro e w3 ⟨A3, c3, rfl, own3, hb3⟩
    have hfin : Hid (SRet (freeO (some p)) true w (.returned (.tuple #[.slice A3 l.length c3, .bool true])) w3) := by
      rw [hgoal.out]
      have hl : (l.map bs).length = l.length := by simp
      refine ⟨A3, c3, by rw [hl], by rw [hl]; exact World.ownsRow.mono own3 hb2'.out.size, below_step hb2'.out (Nat.le_refl _) hb3⟩
    clear own3 hb3
    go_wp2_with fail
    go_ret2
    exact hfin.out

end Go.Proofs.Ytagafoldkfgikaa
