/- impl.without. slices.Contains on names, impl.eachOnce and impl.nameTexts. -/
import Derived.Test.YtchkmdagbjbcjaaGreatDoorRowNm
import Derived.Test.YtchkmdagbjbcjaaGreatDoorMathU
import Derived.Test.YtchkmdagbjbcjaaGreatDoorMathC
import Derived.Test.YtchkmdagbjbcjaaGreatDoorFrG
import Derived.Test.YtchkmdagbjbcjaaGreatDoorListT
import Derived.Deep.Onto
import Derived.Test.YtchkmdagbjbcjaaGreatDoorNameF
namespace Go.Proofs.YtchkmdagbjbcjaaGreatDoor
set_option linter.unusedVariables false
open Go.RowKit

set_option maxRecDepth 100000 in
theorem without_any (A : Option Addr) (n c : Nat) (l : List Bs) (s : Bs) (hs : s ≠ []) (hl : ∀ x ∈ l, x ≠ []) (hn : l.length ≤ 100000) (w : World) (hr : RowN w A n l) :
    Calls Tryz.prog 34 #[.slice A n c, nameW s] w (UPost (minus l s) w) := by
  obtain ⟨i0, hi0, hz0, hz1, hz2⟩ := info_parts infoName
  have hnl := hr.1
  have hr' := Lib.hid hr
  have hl' := Lib.hid hl
  clear hr hl
  go_enter Tryz.func34, Tryz.ntmps34
  go_wp2_with fail
  go_loopw [5, 10] (fun v i wr => ∃ (k : Nat) (A1 : Option Addr) (c1 : Nat), k ≤ n ∧ i = .int .i64 k ∧ v = .slice A1 (minus (l.take k) s).length c1 ∧ wr.ownsRow (w.heap.size + 1) 76 2 (.slice A1 (minus (l.take k) s).length c1) (minus (l.take k) s).length (NVs (minus (l.take k) s)) ∧
      Below (w.heap.size + 1) (w.alloc (.cells #[.int .u8 (hdI s), str s.tail] 76)) wr)
    (fun _ i _ => n - (intOf i).toNat)
  case atStart => exact ⟨0, none, 0, Nat.zero_le _, rfl, rfl, World.ownsRow_nil _ _ _ _, Below.refl _ _⟩
  case round =>
    obtain ⟨k, A1, c1, hk, rfl, rfl, own1, hbel1⟩ := hrel
    have hbelw : Below w.heap.size w wr := below_step ((Below.refl _ _).alloc (Nat.le_refl _) _ : Below w.heap.size w (w.alloc (.cells #[.int .u8 (hdI s), str s.tail] 76))) (by simp) (by simpa using hbel1)
    obtain ⟨z0, r0, r1, -, -⟩ := two_cells ((hbel1.block w.heap.size (by omega)).trans (heap_alloc_new w _))
    have hbel1' := Lib.hid hbel1
    have hbelw' := Lib.hid hbelw
    have own1' := Lib.hid own1
    clear hbel1 own1
    by_cases hlt : k < n
    · obtain ⟨b, o, rfl, hblt, hc⟩ := hr'.out.2 (by omega)
      have l1 : k < l.length := by omega
      obtain ⟨x0, x1⟩ := hc k l[k] (List.getElem?_eq_getElem l1)
      have hne := hl'.out l[k] (List.getElem_mem l1)
      have htake := Lib.hid (List.take_succ_eq_append_getElem l1)
      have y0 := (hbelw.cell (p := ⟨b, o + k * 2, none⟩) hblt).trans x0
      have y1 := (hbelw.cell (p := ⟨b, o + k * 2 + 1, none⟩) hblt).trans x1
      have hbr : b < wr.heap.size := Nat.lt_of_lt_of_le hblt hbelw.size
      generalize ht : l[k] = t at *
      clear x0 x1 hc hbelw
      have hs1 := hbelw'.out.size
      by_cases hst : t = s
      · subst hst
        have hm := Lib.hid (show minus (l.take (k + 1)) t = minus (l.take k) t from by rw [htake.out, minus_append]; simp [minus])
        go_wp2_with fail
        go_roundw
        case rel => exact ⟨k + 1, A1, c1, by omega, by go_num, by rw [hm.out], by rw [hm.out]; exact own1'.out.alloc _, (hbel1'.out.alloc (by omega) _)⟩
        case measure => simp [intOf]; omega
      · have hm := Lib.hid (show minus (l.take (k + 1)) s = minus (l.take k) s ++ [t] from by rw [htake.out, minus_append]; simp [minus, hst])
        have hml : (minus (l.take k) s).length ≤ 100000 := by have := minus_len (l.take k) s; simp at this; omega
        have key : ∀ (w2 : World) (g cap : Nat), w2.ownsRow (w.heap.size + 1) 76 2 (.slice (some ⟨g, 0, none⟩) ((minus (l.take k) s).length + 1) cap) ((minus (l.take k) s).length + 1) (NVs (minus (l.take k) s) ++ [.int .u8 (hdI t), str t.tail]) →
            w2.ownsRow (w.heap.size + 1) 76 2 (.slice (some ⟨g, 0, none⟩) (minus (l.take (k + 1)) s).length cap) (minus (l.take (k + 1)) s).length (NVs (minus (l.take (k + 1)) s)) := fun w2 g cap h => by
          rw [hm.out, NVs_append, List.length_append]; exact h
        have key' := Lib.hid key
        have hml2 := Lib.hid (show (minus (l.take (k + 1)) s).length = (minus (l.take k) s).length + 1 from by rw [hm.out]; simp)
        clear key hm
        have hcase : (hdI t = hdI s) = False ∨ ((hdI t = hdI s) = True ∧ (t.tail = s.tail) = False) := by
          by_cases h1 : hdI t = hdI s
          · refine .inr ⟨eq_true h1, eq_false fun h2 => hst ((name_eq hne hs).1 ⟨h1, h2⟩)⟩
          · exact .inl (eq_false h1)
        clear hst hnl
        rcases hcase with h1 | ⟨h1, h2⟩
        all_goals
          go_wp2_with (first
            | (at_builtin; go_loud (refine wpList_append_lies _ rfl (.tmp 17) (.tmp 19) 40 rfl (w.heap.size + 1) 76 i0 _ 2 24 Tryz.underlying40 hi0 hz0 hz1 hz2 rfl (by decide) _ _ _ rfl ((own1'.out.alloc _).alloc _) ⟨wr.heap.size + 1, 0, none⟩ 1 1 [.int .u8 (hdI t), str t.tail] rfl rfl ?c1 ?c2 (by decide) ?c3 ?c4 ?c5 _ rfl ?_))
            | fail)
          case c1 => exact add_cells (second_alloc _ _ _)
          case c2 => intro u hu; simp at hu; rcases hu with rfl | rfl <;> rfl
          case c3 => unfold maxLen; omega
          case c4 => omega
          case c5 => simp; omega
          intro g cap w2 hown2 hgrow hat hlt2
          have hfin := Lib.hid (key'.out _ _ _ hown2)
          have hg2 := Lib.hid ((bb_alloc2 hbel1'.out _ _ (by simp)).grown hgrow (by simp; omega) (fun j hj => (own1'.out.lt j hj).1))
          clear hown2 hgrow hat
          go_wp2_with fail
          go_roundw
          case rel => exact ⟨k + 1, some ⟨g, 0, none⟩, cap, by omega, by go_num, by rw [hml2.out], hfin.out, hg2.out⟩
          case measure => simp [intOf]; omega
    · obtain rfl : k = n := by omega
      have e : l.take k = l := List.take_of_length_le (by omega)
      rw [e] at own1'
      rw [e]
      go_wp2_with fail
      go_ret
      exact ⟨A1, c1, rfl, World.ownsRow.mono own1'.out (by omega), hbelw'.out⟩

end Go.Proofs.YtchkmdagbjbcjaaGreatDoor

namespace Go.Proofs.YtchkmdagbjbcjaaGreatDoor
set_option linter.unusedVariables false
open Go.RowKit

set_option maxRecDepth 100000 in
theorem sindex_any (A : Option Addr) (n c : Nat) (l : List Bs) (s : Bs) (hs : s ≠ []) (hl : ∀ x ∈ l, x ≠ []) (hn : l.length ≤ 100000) (w : World) (hr : RowN w A n l) :
    Calls Tryz.prog 50 #[.slice A n c, nameW s] w fun e w' => ∃ r : Int, e = .returned (.int .i64 r) ∧ decide (0 ≤ r) = decide (s ∈ l) ∧ Below w.heap.size w w' := by
  have hnl := hr.1
  have hr' := Lib.hid hr
  have hl' := Lib.hid hl
  clear hr hl
  go_enter Tryz.func50, Tryz.ntmps50
  go_wp2_with fail
  have hb0 : Below (w.heap.size + 1) (w.alloc (.cells #[.int .u8 (hdI s), str s.tail] 76)) (w.alloc (.cells #[.int .u8 (hdI s), str s.tail] 76)) := Below.refl _ _
  go_loopw [8] (fun i wr => ∃ k : Nat, k ≤ n ∧ i = .int .i64 k ∧ s ∉ l.take k ∧ Below (w.heap.size + 1) (w.alloc (.cells #[.int .u8 (hdI s), str s.tail] 76)) wr) (fun i _ => n - (intOf i).toNat)
  case atStart => exact ⟨0, Nat.zero_le _, rfl, by simp, hb0⟩
  case round =>
    obtain ⟨k, hk, rfl, hno, hbel1⟩ := hrel
    have hno' := Lib.hid hno
    have hbelw : Below w.heap.size w wr := below_step ((Below.refl _ _).alloc (Nat.le_refl _) _ : Below w.heap.size w (w.alloc (.cells #[.int .u8 (hdI s), str s.tail] 76))) (by simp) (by simpa using hbel1)
    obtain ⟨z0, r0, r1, -, -⟩ := two_cells ((hbel1.block w.heap.size (by omega)).trans (heap_alloc_new w _))
    have hbel1' := Lib.hid hbel1
    have hbelw' := Lib.hid hbelw
    clear hbel1 hno hb0
    by_cases hlt : k < n
    · obtain ⟨b, o, rfl, hblt, hc⟩ := hr'.out.2 (by omega)
      have l1 : k < l.length := by omega
      obtain ⟨x0, x1⟩ := hc k l[k] (List.getElem?_eq_getElem l1)
      have hne := hl'.out l[k] (List.getElem_mem l1)
      have htake := Lib.hid (List.take_succ_eq_append_getElem l1)
      have hmem := Lib.hid (List.getElem_mem l1)
      have y0 := (hbelw.cell (p := ⟨b, o + k * 2, none⟩) hblt).trans x0
      have y1 := (hbelw.cell (p := ⟨b, o + k * 2 + 1, none⟩) hblt).trans x1
      have hbr : b < wr.heap.size := Nat.lt_of_lt_of_le hblt hbelw.size
      generalize ht : l[k] = t at *
      clear x0 x1 hc hbelw
      by_cases hst : t = s
      · subst hst
        clear hnl
        go_wp2_with fail
        go_region
        go_wp2_with fail
        go_ret
        have hbel := hbelw'.out
        exact ⟨_, rfl, by rw [decide_eq_true hmem.out]; simp, (by repeat (with_reducible first | exact hbel | exact Below.refl _ _ | refine Below.drew ?_ | refine Below.drewN ?_ _ | refine Below.alloc ?_ (by first | (simp; done) | (simp; omega) | omega | (have := Below.size hbel; simp; omega) | (have := Below.size hbel; omega)) _ | refine Below.setCell ?_ (by first | (simp; done) | (simp; omega) | omega) _))⟩
      · have hcase : (hdI s = hdI t) = False ∨ ((hdI s = hdI t) = True ∧ (s.tail = t.tail) = False) := by
          by_cases h1 : hdI s = hdI t
          · refine .inr ⟨eq_true h1, eq_false fun h2 => hst ((name_eq hne hs).1 ⟨h1.symm, h2.symm⟩)⟩
          · exact .inl (eq_false h1)
        have hst' := Lib.hid hst
        clear hst hnl
        rcases hcase with h1 | ⟨h1, h2⟩
        all_goals
          go_wp2_with fail
          go_region
          go_wp2_with fail
          go_roundw
          case rel =>
            refine ⟨k + 1, by omega, by go_num, fun hm => ?_, by have hbel := hbel1'.out; exact (by repeat (with_reducible first | exact hbel | exact Below.refl _ _ | refine Below.drew ?_ | refine Below.drewN ?_ _ | refine Below.alloc ?_ (by first | (simp; done) | (simp; omega) | omega | (have := Below.size hbel; simp; omega) | (have := Below.size hbel; omega)) _ | refine Below.setCell ?_ (by first | (simp; done) | (simp; omega) | omega) _))⟩
            rw [htake.out, List.mem_append] at hm
            rcases hm with hm | hm
            · exact hno'.out hm
            · simp at hm; exact hst'.out hm.symm
          case measure => simp [intOf]; omega
    · have e : l.take k = l := List.take_of_length_le (by omega)
      rw [e] at hno'
      go_wp2_with fail
      refine bodyPost_ret (v := .int .i64 (-1)) (by simp [results, Tryz.results50, go_sem]) rfl ?_
      exact ⟨_, rfl, by rw [decide_eq_false hno'.out]; rfl, hbelw'.out⟩

theorem scontains_any (A : Option Addr) (n c : Nat) (l : List Bs) (s : Bs) (hs : s ≠ []) (hl : ∀ x ∈ l, x ≠ []) (hn : l.length ≤ 100000) (w : World) (hr : RowN w A n l) :
    Calls Tryz.prog 33 #[.slice A n c, nameW s] w fun e w' => e = .returned (.bool (decide (s ∈ l))) ∧ Below w.heap.size w w' := by
  have call := Lib.hid (fun W (hW : Below w.heap.size w W) => sindex_any A n c l s hs hl hn W (hr.below hW))
  clear hr hl
  go_enter Tryz.func33, Tryz.ntmps33
  go_wp2_with fail
  refine Calls.mono (call.out _ (by repeat (with_reducible first | exact hbel | exact Below.refl _ _ | refine Below.drew ?_ | refine Below.drewN ?_ _ | refine Below.alloc ?_ (by first | (simp; done) | (simp; omega) | omega | (have := Below.size hbel; simp; omega) | (have := Below.size hbel; omega)) _ | refine Below.setCell ?_ (by first | (simp; done) | (simp; omega) | omega) _))) ?_
  rintro e w1 ⟨r, rfl, hr, hb1⟩
  have hr' := Lib.hid hr
  clear hr
  go_wp2_with fail
  go_ret
  exact ⟨ret_bool hr'.out, below_step (by repeat (with_reducible first | exact hbel | exact Below.refl _ _ | refine Below.drew ?_ | refine Below.drewN ?_ _ | refine Below.alloc ?_ (by first | (simp; done) | (simp; omega) | omega | (have := Below.size hbel; simp; omega) | (have := Below.size hbel; omega)) _ | refine Below.setCell ?_ (by first | (simp; done) | (simp; omega) | omega) _)) (by simp) hb1⟩

theorem fold_take {l : List Bs} {k : Nat} {t : Bs} (h : l[k]? = some t) : (l.take (k + 1)).foldl addN [] = addN ((l.take k).foldl addN []) t := by
  rw [List.take_add_one, h, List.foldl_append]; rfl

set_option maxRecDepth 100000 in
theorem eachOnce_any (A : Option Addr) (n c : Nat) (l : List Bs) (hl : ∀ x ∈ l, x ≠ []) (hn : l.length ≤ 100000) (w : World) (hr : RowN w A n l) :
    Calls Tryz.prog 18 #[.slice A n c] w (UPost (l.foldl addN []) w) := by
  obtain ⟨i0, hi0, hz0, hz1, hz2⟩ := info_parts infoName
  have hnl : n = l.length := hr.1
  subst hnl
  have hr' := Lib.hid hr
  have hne := Lib.hid hl
  have hfl : ∀ k, ((l.take k).foldl addN []).length ≤ 100000 := fun k => by
    have := foldl_len (l.take k) []
    have : (l.take k).length ≤ l.length := (by rw [List.length_take]; omega)
    simp at *; omega
  have hfn : ∀ k, ∀ y ∈ (l.take k).foldl addN [], y ≠ [] := fun k y hy => by
    rw [foldl_mem] at hy
    rcases hy with hy | hy
    · cases hy
    · exact hl y (List.mem_of_mem_take hy)
  have hfl' := Lib.hid hfl
  have hfn' := Lib.hid hfn
  clear hfl hfn hr hl
  go_enter Tryz.func18, Tryz.ntmps18
  go_wp2_with fail
  go_loopw [3, 8] (fun v i wr => ∃ (k : Nat) (A1 : Option Addr) (c1 : Nat), k ≤ l.length ∧ i = .int .i64 k ∧ v = .slice A1 ((l.take k).foldl addN []).length c1 ∧
      wr.ownsRow w.heap.size 76 2 (.slice A1 ((l.take k).foldl addN []).length c1) ((l.take k).foldl addN []).length (NVs ((l.take k).foldl addN [])) ∧ Below w.heap.size w wr)
    (fun _ i _ => l.length - (intOf i).toNat)
  case atStart => exact ⟨0, none, 0, Nat.zero_le _, rfl, rfl, World.ownsRow_nil _ _ _ _, Below.refl _ _⟩
  case round =>
    obtain ⟨k, A1, c1, hk, rfl, rfl, own1, hbel1⟩ := hrel
    have hfk := hfl'.out k
    have hbel1' := Lib.hid hbel1
    have own1' := Lib.hid own1
    have hs1 := hbel1.size
    clear own1
    by_cases hlt : k < l.length
    · obtain ⟨b, o, rfl, hblt, hc⟩ := hr'.out.2 (by omega)
      obtain ⟨x0, x1⟩ := hc k l[k] (List.getElem?_eq_getElem hlt)
      have htn := hne.out l[k] (List.getElem_mem hlt)
      have hft := Lib.hid (fold_take (List.getElem?_eq_getElem hlt))
      have hfk1 := hfl'.out (k + 1)
      have y0 := (hbel1.cell (p := ⟨b, o + k * 2, none⟩) hblt).trans x0
      have y1 := (hbel1.cell (p := ⟨b, o + k * 2 + 1, none⟩) hblt).trans x1
      have hbr : b < wr.heap.size := Nat.lt_of_lt_of_le hblt hbel1.size
      have hcon := Lib.hid (fun W (hW : Below wr.heap.size wr W) => scontains_any A1 _ c1 ((l.take k).foldl addN []) l[k] htn (hfn'.out k) (by omega) W (RowN.of_own (own_below own1'.out hW)))
      generalize ht : l[k] = t at *
      generalize (l.take k).foldl addN [] = acc at *
      clear x0 x1 hc hbel1 ht
      cases hin : decide (t ∈ acc)
      · rw [hin] at hcon
        have hm2 := Lib.hid (show (l.take (k + 1)).foldl addN [] = acc ++ [t] from by rw [hft.out, addN, if_neg (of_decide_eq_false hin)])
        have hml := Lib.hid (show ((l.take (k + 1)).foldl addN []).length = acc.length + 1 from by rw [hm2.out]; simp)
        clear hft hin hfk1
        go_wp2_with fail
        refine Calls.mono (hcon.out _ ((Below.refl _ _).alloc (Nat.le_refl _) _)) ?_
        rintro e w2 ⟨rfl, hb2⟩
        obtain ⟨z0, r0, r1, -, -⟩ := two_cells ((hb2.block wr.heap.size (by simp)).trans (heap_alloc_new wr _))
        have hwr2 := below_step (show Below wr.heap.size wr _ from (Below.refl _ _).alloc (Nat.le_refl _) _) (by simp) hb2
        have own2 := Lib.hid (own_below own1'.out hwr2)
        have hb02 := Lib.hid (below_step hbel1'.out (Nat.le_refl _) hwr2)
        have hs2 := hwr2.size
        clear hb2 hwr2
        go_wp2_with (first
          | (at_builtin; go_loud (refine wpList_append_lies _ rfl (.tmp 16) (.tmp 18) 40 rfl w.heap.size 76 i0 _ 2 24 Tryz.underlying40 hi0 hz0 hz1 hz2 rfl (by decide) _ _ _ rfl (own2.out.alloc _) ⟨w2.heap.size, 0, none⟩ 1 1 [.int .u8 (hdI t), str t.tail] rfl rfl ?c1 ?c2 (by decide) ?c3 ?c4 ?c5 _ rfl ?_))
          | fail)
        case c1 => exact add_cells (heap_alloc_new _ _)
        case c2 => intro u hu; simp at hu; rcases hu with rfl | rfl <;> rfl
        case c3 => unfold maxLen; omega
        case c4 => omega
        case c5 => simp; omega
        intro g cap w3 hown2 hgrow hat hlt2
        have hfin := Lib.hid (show w3.ownsRow w.heap.size 76 2 (.slice (some ⟨g, 0, none⟩) (acc ++ [t]).length cap) (acc ++ [t]).length (NVs (acc ++ [t])) from by rw [NVs_append, List.length_append]; exact hown2)
        have hg2 := Lib.hid ((bb_alloc hb02.out _).grown hgrow (by simp; omega) (fun j hj => (own1'.out.lt j hj).1))
        clear hown2 hgrow hat
        go_wp2_with fail
        go_roundw
        case rel => exact ⟨k + 1, some ⟨g, 0, none⟩, cap, by omega, by go_num, by rw [hml.out], by rw [hm2.out]; exact hfin.out, hg2.out⟩
        case measure => simp [intOf]; omega
      · rw [hin] at hcon
        have hm2 := Lib.hid (show (l.take (k + 1)).foldl addN [] = acc from by rw [hft.out, addN, if_pos (of_decide_eq_true hin)])
        clear hft hin hfk1
        go_wp2_with fail
        refine Calls.mono (hcon.out _ ((Below.refl _ _).alloc (Nat.le_refl _) _)) ?_
        rintro e w2 ⟨rfl, hb2⟩
        have hwr2 := below_step (show Below wr.heap.size wr _ from (Below.refl _ _).alloc (Nat.le_refl _) _) (by simp) hb2
        have own2 := Lib.hid (own_below own1'.out hwr2)
        have hb02 := Lib.hid (below_step hbel1'.out (Nat.le_refl _) hwr2)
        clear hb2 hwr2
        go_wp2_with fail
        go_roundw
        case rel => exact ⟨k + 1, A1, c1, by omega, by go_num, by rw [hm2.out], by rw [hm2.out]; exact own2.out, hb02.out⟩
        case measure => simp [intOf]; omega
    · have e : l.take k = l := List.take_of_length_le (by omega)
      rw [e] at own1' ⊢
      go_wp2_with fail
      go_ret
      exact ⟨A1, c1, rfl, own1'.out, hbel1'.out⟩

def bsN (s : Bs) : ByteArray := ⟨s.toArray⟩
/-- A call hands back a row of its own with the texts of the names l. -/
def TxPost (l : List Bs) (w : World) (e : Ending) (w' : World) : Prop :=
  ∃ A c, e = .returned (.slice A l.length c) ∧ w'.ownsRow w.heap.size 9 1 (.slice A l.length c) l.length ((l.map bsN).map Value.string) ∧ Below w.heap.size w w'

set_option maxRecDepth 100000 in
theorem nameTexts_any (A : Option Addr) (n c : Nat) (l : List Bs) (hl : ∀ x ∈ l, isName x = true) (hn : l.length ≤ 100000) (w : World) (hr : RowN w A n l) :
    Calls Tryz.prog 17 #[.slice A n c] w (TxPost l w) := by
  obtain ⟨i0, hi0, hz0, hz1, hz2⟩ := info_parts infoStr
  have hnl : n = l.length := hr.1
  subst hnl
  have hr' := Lib.hid hr
  have hfn := Lib.hid hl
  clear hr hl
  go_enter Tryz.func17, Tryz.ntmps17
  go_wp2_with fail
  go_loopw [3, 8] (fun v i wr => ∃ (k : Nat) (A1 : Option Addr) (c1 : Nat), k ≤ l.length ∧ i = .int .i64 k ∧ v = .slice A1 k c1 ∧
      wr.ownsRow w.heap.size 9 1 (.slice A1 k c1) k (((l.take k).map bsN).map Value.string) ∧ Below w.heap.size w wr)
    (fun _ i _ => l.length - (intOf i).toNat)
  case atStart => exact ⟨0, none, 0, Nat.zero_le _, rfl, rfl, World.ownsRow_nil _ _ _ _, Below.refl _ _⟩
  case round =>
    obtain ⟨k, A1, c1, hk, rfl, rfl, own1, hbel1⟩ := hrel
    have hbel1' := Lib.hid hbel1
    have own1' := Lib.hid own1
    have hs1 := hbel1.size
    clear own1
    by_cases hlt : k < l.length
    · obtain ⟨b, o, rfl, hblt, hc⟩ := hr'.out.2 (by omega)
      obtain ⟨x0, x1⟩ := hc k l[k] (List.getElem?_eq_getElem hlt)
      have htn := hfn.out l[k] (List.getElem_mem hlt)
      have htk := Lib.hid (List.take_succ_eq_append_getElem hlt)
      have y0 := (hbel1.cell (p := ⟨b, o + k * 2, none⟩) hblt).trans x0
      have y1 := (hbel1.cell (p := ⟨b, o + k * 2 + 1, none⟩) hblt).trans x1
      have hbr : b < wr.heap.size := Nat.lt_of_lt_of_le hblt hbel1.size
      generalize ht : l[k] = t at *
      obtain ⟨c0, d0, rfl⟩ : ∃ c0 d0, t = c0 :: d0 := by cases t with
        | nil => cases htn
        | cons c d => exact ⟨c, d, rfl⟩
      have h4 := (isName_in htn).1
      simp at h4
      have hor : varB c0 = true ∨ covB c0 = true := by
        simp only [isName, isVar, isCov, nameB, Bool.or_eq_true, Bool.and_eq_true] at htn
        rcases htn with h | h
        · exact .inl h.1.1
        · exact .inr h.1.1
      have hnt := Lib.hid (fun W => nameText_any c0 d0 hor (by omega) W)
      have z0 : wr.cell? ⟨b, o + k * 2, none⟩ = some (.int .u8 c0.toNat) := y0
      have z1 : wr.cell? ⟨b, o + k * 2 + 1, none⟩ = some (str d0) := y1
      clear x0 x1 hc hbel1 ht htn y0 y1 hor
      go_wp2_with fail
      refine Calls.mono (hnt.out _) ?_
      rintro e w3 ⟨rfl, hb3⟩
      have hwr2 := below_step (show Below wr.heap.size wr _ from (Below.refl _ _).alloc (Nat.le_refl _) _) (by simp) hb3
      have own2 := Lib.hid (own_below own1'.out hwr2)
      have hb02 := Lib.hid (below_step hbel1'.out (Nat.le_refl _) hwr2)
      have hs2 := hwr2.size
      clear hb3 hwr2
      go_wp2_with (first
        | (at_builtin; go_loud (refine wpList_append_lies _ rfl (.tmp 12) (.tmp 15) 24 rfl w.heap.size 9 i0 _ 1 16 Tryz.underlying24 hi0 hz0 hz1 hz2 rfl (by decide) _ _ _ rfl (own2.out.alloc _) ⟨w3.heap.size, 0, none⟩ 1 1 [str (c0 :: d0)] rfl rfl ?c1 ?c2 (by decide) ?c3 ?c4 ?c5 _ rfl ?_))
        | fail)
      case c1 => exact World.news_of_block (cs := #[str (c0 :: d0)]) (heap_alloc_new _ _)
      case c2 => intro u hu; simp at hu; rw [hu]; rfl
      case c3 => unfold maxLen; omega
      case c4 => omega
      case c5 => simp; omega
      intro g cap w4 hown2 hgrow hat hlt2
      have hfin := Lib.hid (show w4.ownsRow w.heap.size 9 1 (.slice (some ⟨g, 0, none⟩) (k + 1) cap) (k + 1) (((l.take (k + 1)).map bsN).map Value.string) from by rw [htk.out, List.map_append, List.map_append, List.map_map, List.map_take]; exact hown2)
      have hg2 := Lib.hid ((bb_alloc hb02.out _).grown hgrow (by simp; omega) (fun j hj => (own1'.out.lt j hj).1))
      clear hown2 hgrow hat
      go_wp2_with fail
      go_roundw
      case rel => exact ⟨k + 1, some ⟨g, 0, none⟩, cap, by omega, by go_num, rfl, hfin.out, hg2.out⟩
      case measure => simp [intOf]; omega
    · obtain rfl : k = l.length := by omega
      rw [List.take_of_length_le (Nat.le_refl _)] at own1'
      go_wp2_with fail
      go_ret
      exact ⟨A1, c1, rfl, own1'.out, hbel1'.out⟩

end Go.Proofs.YtchkmdagbjbcjaaGreatDoor
