/- impl.ProgramFree. -/
import Derived.Test.YtcdagenocmmidaaFreeI
namespace Go.Proofs.Ytcdagenocmmidaa
set_option linter.unusedVariables false
open Go.RowKit

def bs (s : Bs) : ByteArray := ⟨s.toArray⟩
def freeO : Option P → List ByteArray
  | none => []
  | some p => (freeL p).map bs
theorem freeL_len (p : P) : (freeL p).length ≤ p.size := by
  have := foldl_len p.uses []; have := p.uses_len; unfold freeL; simp at *; omega
theorem freeL_name {p : P} (hok : p.ok = true) : ∀ s ∈ freeL p, isName s = true := fun s hs => by
  unfold freeL at hs
  rw [foldl_mem] at hs
  rcases hs with hs | hs
  · cases hs
  · exact P.uses_name hok s hs

set_option maxRecDepth 100000 in
theorem implFree_any (s : ByteArray) (w : World) : Calls Try.prog 21 #[.string s] w (SRet (freeO (readP s.data.toList)) (readP s.data.toList).isSome w) := by
  obtain ⟨i0, hi0, hz0, hz1, hz2⟩ := info_parts infoStr
  generalize hz : readP s.data.toList = o
  have hz' := Lib.hid hz
  clear hz
  go_enter Try.func21, Try.ntmps21
  go_wp2_with fail
  refine Calls.mono (readProgram_any s _) ?_
  intro e w1 hm
  rw [hz'.out] at hm
  cases o with
  | none =>
    obtain ⟨hb1, rfl⟩ := hm
    go_wp2_with fail
    go_ret2
    exact ⟨none, 0, rfl, World.ownsRow_nil _ _ _ _, hb1⟩
  | some p =>
    have hok := (readP_ok hz'.out).1
    have h5 := (readP_ok hz'.out).2.1
    obtain ⟨hb1, y, rfl, hy⟩ := hm
    have hcF := Lib.hid (freeNames_any hok (by omega) w1 _ y hy (fun g hg => hg.2))
    have hfl := freeL_len p
    have hfn := Lib.hid (freeL_name hok)
    have hgoal := Lib.hid (show freeO (some p) = (freeL p).map bs from rfl)
    have hb1' := Lib.hid hb1
    generalize freeL p = l at *
    clear hy hb1
    go_wp2_with fail
    refine Calls.mono hcF.out ?_
    rintro e w2 ⟨A, c, rfl, own, hb2⟩
    have hr' := Lib.hid (RowN.of_own own)
    have hb2' := Lib.hid (below_step hb1'.out (Nat.le_refl _) hb2)
    clear own hb2
    go_wp2_with fail
    go_loopw [6, 19] (fun v i wr => ∃ (k : Nat) (A1 : Option Addr) (c1 : Nat), k ≤ l.length ∧ i = .int .i64 k ∧ v = .slice A1 k c1 ∧
        wr.ownsRow w2.heap.size 9 1 (.slice A1 k c1) k (((l.take k).map bs).map Value.string) ∧ Below w2.heap.size w2 wr)
      (fun _ i _ => l.length - (intOf i).toNat)
    case atStart => exact ⟨0, none, 0, Nat.zero_le _, rfl, rfl, World.ownsRow_nil _ _ _ _, Below.refl _ _⟩
    case round =>
      obtain ⟨k, A1, c1, hk, rfl, rfl, own1, hbel1⟩ := hrel
      have hbel1' := Lib.hid hbel1
      have own1' := Lib.hid own1
      have hs1 := hbel1.size
      clear own1
      by_cases hlt : k < l.length
      · obtain ⟨b, o, rfl, hblt, hc⟩ := hr'.out.2 (by omega)
        obtain ⟨x0, x1⟩ := hc k l[k] (List.getElem?_eq_getElem hlt)
        have htn := hfn.out l[k] (List.getElem_mem hlt)
        have htk := Lib.hid (List.take_succ_eq_append_getElem hlt)
        have y0 := (hbel1.cell (p := ⟨b, o + k * 2, none⟩) hblt).trans x0
        have y1 := (hbel1.cell (p := ⟨b, o + k * 2 + 1, none⟩) hblt).trans x1
        have hbr : b < wr.heap.size := Nat.lt_of_lt_of_le hblt hbel1.size
        generalize ht : l[k] = t at *
        obtain ⟨c0, d0, rfl⟩ : ∃ c0 d0, t = c0 :: d0 := by cases t with
          | nil => cases htn
          | cons c d => exact ⟨c, d, rfl⟩
        have h4 := (isName_in htn).1
        simp at h4
        have hnt := Lib.hid (fun W => nameText_any c0 d0 (var_or htn) (by omega) W)
        have z0 : wr.cell? ⟨b, o + k * 2, none⟩ = some (.int .u8 c0.toNat) := y0
        have z1 : wr.cell? ⟨b, o + k * 2 + 1, none⟩ = some (str d0) := y1
        clear x0 x1 hc hbel1 ht htn y0 y1
        go_wp2_with fail
        refine Calls.mono (hnt.out _) ?_
        rintro e w3 ⟨rfl, hb3⟩
        have hwr2 := below_step (show Below wr.heap.size wr _ from (Below.refl _ _).alloc (Nat.le_refl _) _) (by simp) hb3
        have own2 := Lib.hid (own_below own1'.out hwr2)
        have hb02 := Lib.hid (below_step hbel1'.out (Nat.le_refl _) hwr2)
        have hs2 := hwr2.size
        clear hb3 hwr2
        go_wp2_with (first
          | (at_builtin; go_loud (refine wpList_append_lies _ rfl (.tmp 23) (.tmp 26) 29 rfl w2.heap.size 9 i0 _ 1 16 Try.underlying29 hi0 hz0 hz1 hz2 rfl (by decide) _ _ _ rfl (own2.out.alloc _) ⟨w3.heap.size, 0, none⟩ 1 1 [str (c0 :: d0)] rfl rfl ?c1 ?c2 (by decide) ?c3 ?c4 ?c5 _ rfl ?_))
          | fail)
        case c1 => exact World.news_of_block (cs := #[str (c0 :: d0)]) (heap_alloc_new _ _)
        case c2 => intro u hu; simp at hu; rw [hu]; rfl
        case c3 => unfold maxLen; omega
        case c4 => omega
        case c5 => simp; omega
        intro g cap w4 hown2 hgrow hat hlt2
        have hfin := Lib.hid (show w4.ownsRow w2.heap.size 9 1 (.slice (some ⟨g, 0, none⟩) (k + 1) cap) (k + 1) (((l.take (k + 1)).map bs).map Value.string) from by rw [htk.out, List.map_append, List.map_append, List.map_map, List.map_take]; exact hown2)
        have hg2 := Lib.hid ((bb_alloc hb02.out _).grown hgrow (by simp; omega) (fun j hj => (own1'.out.lt j hj).1))
        clear hown2 hgrow hat
        go_wp2_with fail
        go_roundw
        case rel => exact ⟨k + 1, some ⟨g, 0, none⟩, cap, by omega, by go_num, rfl, hfin.out, hg2.out⟩
        case measure => simp [intOf]; omega
      · obtain rfl : k = l.length := by omega
        rw [List.take_of_length_le (Nat.le_refl _)] at own1'
        have hfin : Hid (SRet (freeO (some p)) true w (.returned (.tuple #[.slice A1 l.length c1, .bool true])) wr) := by
          rw [hgoal.out]
          have hl : (l.map bs).length = l.length := by simp
          refine ⟨A1, c1, by rw [hl], by rw [hl]; exact World.ownsRow.mono own1'.out hb2'.out.size, below_step hb2'.out (Nat.le_refl _) hbel1'.out⟩
        go_wp2_with fail
        go_ret2
        exact hfin.out

end Go.Proofs.Ytcdagenocmmidaa
