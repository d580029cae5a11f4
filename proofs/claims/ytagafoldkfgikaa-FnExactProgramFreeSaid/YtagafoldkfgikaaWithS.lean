/- spec.l2With. -/
import Derived.Test.YtagafoldkfgikaaHas
import Derived.Test.YtagafoldkfgikaaRowA
namespace Go.Proofs.Ytagafoldkfgikaa
set_option linter.unusedVariables false
open Go.RowKit

def bs' (s : Bs) : ByteArray := ⟨s.toArray⟩

set_option maxRecDepth 100000 in
theorem with_any (A : Option Addr) (n c : Nat) (base : Nat) (ss : List ByteArray) (s : ByteArray) (w : World) (hown : w.ownsRow base 9 1 (.slice A n c) n (ss.map Value.string)) (hn : n ≤ 100000000) :
    Calls Try.prog 30 #[.slice A n c, .string s] w fun e w' => ∃ A' c', e = .returned (.slice A' (n + 1) c') ∧ w'.ownsRow w.heap.size 9 1 (.slice A' (n + 1) c') (n + 1) ((ss ++ [s]).map Value.string) ∧ Below w.heap.size w w' := by
  obtain ⟨i0, hi0, hz0, hz1, hz2⟩ := info_parts infoStr
  have hown' := Lib.hid hown
  clear hown
  go_enter Try.func30, Try.ntmps30
  have hmade : Hid ((w.alloc (.cells #[] 9)).ownsRow w.heap.size 9 1 (.slice (some ⟨w.heap.size, 0, none⟩) 0 0) 0 []) := own_empty w w.heap.size (Nat.le_refl _) _
  go_wp2_with (first
    | (at_builtin; go_loud (refine wpList_append_row rfl (.tmp 5) (.tmp 6) 22 rfl w.heap.size 9 i0 _ 1 16 Try.underlying22 hi0 hz0 hz1 hz2 rfl (by decide) _ 0 [] rfl hmade.out base (.slice A n c) n _ rfl (hown'.out.alloc _) ?c1 ?c2 ?c3 ?c4 ?_))
    | fail)
  case c1 => intro u hu; rw [List.mem_map] at hu; obtain ⟨x, -, rfl⟩ := hu; rfl
  case c2 => unfold maxLen; omega
  case c3 => omega
  case c4 => simp
  intro A1 c1 w1 own1 gr1
  have hb1 : Hid (Below w.heap.size w w1) := Lib.hid (((Below.refl _ _).alloc (Nat.le_refl _) _ : Below w.heap.size w (w.alloc _)).grown gr1 (by simp) (fun k hk => by simp [Value.ownBlock] at hk; omega))
  have own1' := Lib.hid own1
  have hs1 := hb1.out.size
  clear own1 gr1
  go_wp2_with (first
    | (at_builtin; go_loud (refine wpList_append_lies _ rfl (.tmp 7) (.tmp 9) 22 rfl w.heap.size 9 i0 _ 1 16 Try.underlying22 hi0 hz0 hz1 hz2 rfl (by decide) _ _ _ rfl (own1'.out.alloc _) ⟨w1.heap.size, 0, none⟩ 1 1 [.string s] rfl rfl ?d1 ?d2 (by decide) ?d3 ?d4 ?d5 _ rfl ?_))
    | fail)
  case d1 => exact World.news_of_block (cs := #[.string s]) (heap_alloc_new _ _)
  case d2 => intro u hu; simp at hu; rw [hu]; rfl
  case d3 => unfold maxLen; omega
  case d4 => omega
  case d5 => simp; omega
  intro g cap w2 own2 gr2 hat hlt2
  have hfin := Lib.hid (show w2.ownsRow w.heap.size 9 1 (.slice (some ⟨g, 0, none⟩) (n + 1) cap) (n + 1) ((ss ++ [s]).map Value.string) from by rw [List.map_append]; exact own2)
  have hb2 := Lib.hid ((bb_alloc hb1.out _).grown gr2 (by simp; omega) (fun j hj => (own1'.out.lt j hj).1))
  clear own2 gr2 hat
  go_wp2_with fail
  go_ret
  exact ⟨_, _, rfl, hfin.out, hb2.out⟩

end Go.Proofs.Ytagafoldkfgikaa
