/- impl.without. slices.Contains on names, impl.eachOnce and impl.nameTexts. -/
import Derived.Test.YtaagbnbekfogiaaGreatDoorRowNm
import Derived.Test.YtaagbnbekfogiaaGreatDoorMathU
import Derived.Test.YtaagbnbekfogiaaGreatDoorMathC
import Derived.Test.YtaagbnbekfogiaaGreatDoorRowB
import Derived.Test.YtaagbnbekfogiaaGreatDoorListT
import Derived.Deep.Onto
import Derived.Test.YtaagbnbekfogiaaGreatDoorNameF
namespace Go.Proofs.YtaagbnbekfogiaaGreatDoor
set_option linter.unusedVariables false
open Go.RowKit

set_option maxRecDepth 100000 in
theorem without_any (A : Option Addr) (n c : Nat) (l : List Bs) (s : Bs) (hs : s ≠ []) (hl : ∀ x ∈ l, x ≠ []) (hn : l.length ≤ 100000) (w : World) (hr : RowN w A n l) :
    Calls Tryz.prog 159 #[.slice A n c, nameW s] w (UPost (minus l s) w) := by
  obtain ⟨i0, hi0, hz0, hz1, hz2⟩ := info_parts infoName
  have hnl := hr.1
  have hr' := Lib.hid hr
  have hl' := Lib.hid hl
  clear hr hl
  go_enter Tryz.func159, Tryz.ntmps159
  go_wp2_with fail
  go_loopw [5, 10] (fun v i wr => ∃ (k : Nat) (A1 : Option Addr) (c1 : Nat), k ≤ n ∧ i = .int .i64 k ∧ v = .slice A1 (minus (l.take k) s).length c1 ∧ wr.ownsRow (w.heap.size + 1) 41 2 (.slice A1 (minus (l.take k) s).length c1) (minus (l.take k) s).length (NVs (minus (l.take k) s)) ∧
      Below (w.heap.size + 1) (w.alloc (.cells #[.int .u8 (hdI s), str s.tail] 41)) wr)
    (fun _ i _ => n - (intOf i).toNat)
  case atStart => exact ⟨0, none, 0, Nat.zero_le _, rfl, rfl, World.ownsRow_nil _ _ _ _, Below.refl _ _⟩
  case round =>
    obtain ⟨k, A1, c1, hk, rfl, rfl, own1, hbel1⟩ := hrel
    have hbelw : Below w.heap.size w wr := below_step ((Below.refl _ _).alloc (Nat.le_refl _) _ : Below w.heap.size w (w.alloc (.cells #[.int .u8 (hdI s), str s.tail] 41))) (by simp) (by simpa using hbel1)
    obtain ⟨z0, r0, r1, -, -⟩ := two_cells ((hbel1.block w.heap.size (by omega)).trans (heap_alloc_new w _))
    have hbel1' := Lib.hid hbel1
    have hbelw' := Lib.hid hbelw
    have own1' := Lib.hid own1
    clear hbel1 own1
    by_cases hlt : k < n
    · obtain ⟨b, o, rfl, hblt, hc⟩ := hr'.out.2 (by omega)
      have l1 : k < l.length := by omega
      obtain ⟨x0, x1⟩ := hc k l[k] (List.getElem?_eq_getElem l1)
      have hne := hl'.out l[k] (List.getElem_mem l1)
      have htake := Lib.hid (List.take_succ_eq_append_getElem l1)
      have y0 := (hbelw.cell (p := ⟨b, o + k * 2, none⟩) hblt).trans x0
      have y1 := (hbelw.cell (p := ⟨b, o + k * 2 + 1, none⟩) hblt).trans x1
      have hbr : b < wr.heap.size := Nat.lt_of_lt_of_le hblt hbelw.size
      generalize ht : l[k] = t at *
      clear x0 x1 hc hbelw
      have hs1 := hbelw'.out.size
      by_cases hst : t = s
      · subst hst
        have hm := Lib.hid (show minus (l.take (k + 1)) t = minus (l.take k) t from by rw [htake.out, minus_append]; simp [minus])
        go_wp2_with fail
        go_roundw
        case rel => exact ⟨k + 1, A1, c1, by omega, by go_num, by rw [hm.out], by rw [hm.out]; exact own1'.out.alloc _, (hbel1'.out.alloc (by omega) _)⟩
        case measure => simp [intOf]; omega
      · have hm := Lib.hid (show minus (l.take (k + 1)) s = minus (l.take k) s ++ [t] from by rw [htake.out, minus_append]; simp [minus, hst])
        have hml : (minus (l.take k) s).length ≤ 100000 := by have := minus_len (l.take k) s; simp at this; omega
        have key : ∀ (w2 : World) (g cap : Nat), w2.ownsRow (w.heap.size + 1) 41 2 (.slice (some ⟨g, 0, none⟩) ((minus (l.take k) s).length + 1) cap) ((minus (l.take k) s).length + 1) (NVs (minus (l.take k) s) ++ [.int .u8 (hdI t), str t.tail]) →
            w2.ownsRow (w.heap.size + 1) 41 2 (.slice (some ⟨g, 0, none⟩) (minus (l.take (k + 1)) s).length cap) (minus (l.take (k + 1)) s).length (NVs (minus (l.take (k + 1)) s)) := fun w2 g cap h => by
          rw [hm.out, NVs_append, List.length_append]; exact h
        have key' := Lib.hid key
        have hml2 := Lib.hid (show (minus (l.take (k + 1)) s).length = (minus (l.take k) s).length + 1 from by rw [hm.out]; simp)
        clear key hm
        have hcase : (hdI t = hdI s) = False ∨ ((hdI t = hdI s) = True ∧ (t.tail = s.tail) = False) := by
          by_cases h1 : hdI t = hdI s
          · refine .inr ⟨eq_true h1, eq_false fun h2 => hst ((name_eq hne hs).1 ⟨h1, h2⟩)⟩
          · exact .inl (eq_false h1)
        clear hst hnl
        rcases hcase with h1 | ⟨h1, h2⟩
        all_goals
          go_wp2_with (first
            | (at_builtin; go_loud (refine wpList_append_lies _ rfl (.tmp 17) (.tmp 19) 85 rfl (w.heap.size + 1) 41 i0 _ 2 24 Tryz.underlying85 hi0 hz0 hz1 hz2 rfl (by decide) _ _ _ rfl ((own1'.out.alloc _).alloc _) ⟨wr.heap.size + 1, 0, none⟩ 1 1 [.int .u8 (hdI t), str t.tail] rfl rfl ?c1 ?c2 (by decide) ?c3 ?c4 ?c5 _ rfl ?_))
            | fail)
          case c1 => exact add_cells (second_alloc _ _ _)
          case c2 => intro u hu; simp at hu; rcases hu with rfl | rfl <;> rfl
          case c3 => unfold maxLen; omega
          case c4 => omega
          case c5 => simp; omega
          intro g cap w2 hown2 hgrow hat hlt2
          have hfin := Lib.hid (key'.out _ _ _ hown2)
          have hg2 := Lib.hid ((bb_alloc2 hbel1'.out _ _ (by simp)).grown hgrow (by simp; omega) (fun j hj => (own1'.out.lt j hj).1))
          clear hown2 hgrow hat
          go_wp2_with fail
          go_roundw
          case rel => exact ⟨k + 1, some ⟨g, 0, none⟩, cap, by omega, by go_num, by rw [hml2.out], hfin.out, hg2.out⟩
          case measure => simp [intOf]; omega
    · obtain rfl : k = n := by omega
      have e : l.take k = l := List.take_of_length_le (by omega)
      rw [e] at own1'
      rw [e]
      go_wp2_with fail
      go_ret
      exact ⟨A1, c1, rfl, World.ownsRow.mono own1'.out (by omega), hbelw'.out⟩

end Go.Proofs.YtaagbnbekfogiaaGreatDoor

namespace Go.Proofs.YtaagbnbekfogiaaGreatDoor
set_option linter.unusedVariables false
open Go.RowKit

theorem fold_take {l : List Bs} {k : Nat} {t : Bs} (h : l[k]? = some t) : (l.take (k + 1)).foldl addN [] = addN ((l.take k).foldl addN []) t := by
  rw [List.take_add_one, h, List.foldl_append]; rfl

def bsN (s : Bs) : ByteArray := ⟨s.toArray⟩
/-- A call hands back a row of its own with the texts of the names l. -/
def TxPost (l : List Bs) (w : World) (e : Ending) (w' : World) : Prop :=
  ∃ A c, e = .returned (.slice A l.length c) ∧ w'.ownsRow w.heap.size 9 1 (.slice A l.length c) l.length ((l.map bsN).map Value.string) ∧ Below w.heap.size w w'

end Go.Proofs.YtaagbnbekfogiaaGreatDoor
