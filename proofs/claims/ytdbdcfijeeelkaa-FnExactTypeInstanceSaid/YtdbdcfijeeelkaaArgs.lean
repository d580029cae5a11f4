/- Lists of texts that came in: what they read as; szStringS, toStringS. -/
import Derived.Test.YtdbdcfijeeelkaaHas
import Derived.Test.YtdbdcfijeeelkaaMark
import Derived.ProofKit
namespace Go.Proofs.Ytdbdcfijeeelkaa
open Go.RowKit
open Go.ChangeShapes (open_strings)

/-- A list of texts that came in. -/
def ArgS (w : World) (A : Option Addr) (n : Nat) (ss : List ByteArray) : Prop := RowS w A n ss ∧ ∀ s ∈ ss, s.size ≤ maxLen

theorem ArgS.below {w w' : World} {A : Option Addr} {n : Nat} {ss : List ByteArray} (h : ArgS w A n ss) (hb : Below w.heap.size w w') : ArgS w' A n ss := ⟨h.1.below hb, h.2⟩

theorem addr_of_cell {w : World} {a : Addr} {v : Value} (h : w.cell? (a.add 0) = some v) : a = ⟨a.block, a.off, none⟩ ∧ a.block < w.heap.size ∧ ∀ j, a.add j = ⟨a.block, a.off + j, none⟩ := by
  have h' : w.cell? a = some v := h
  have hb := World.block_lt_of_cell? w _ h'
  obtain ⟨b, o, sp⟩ := a
  cases sp with
  | some x =>
    exfalso
    unfold World.cell? at h'
    split at h'
    · simp at h'
    · cases h'
  | none =>
    refine ⟨rfl, hb, fun j => ?_⟩
    unfold Addr.add
    split
    · rename_i h0; simp_all
    · rfl

theorem rowS_of {H : Type} {enc : TypeId × Value → H} {W : World} {A : Option Addr} {len cap : Nat} {d : DataW H} {p : List MemPlace} {held : Bool}
    (h : DataW.Trod enc Try.prog W 0 (fun _ => true) held 22 (.slice A len cap) d p) : ∃ ss, ArgS W A len ss ∧ len ≤ maxLen := by
  obtain ⟨fuel, hf⟩ := h
  rcases open_strings Try.underlying22 Try.underlying9 (by kernel_rfl) hf with ⟨hcs, _⟩ | ⟨a, l, c, ss, hcs, _, hl, hm, hz, _, hcell, hws⟩
  · simp [Value.cells] at hcs
    obtain ⟨rfl, rfl, rfl⟩ := hcs
    exact ⟨[], ⟨⟨rfl, fun h => absurd h (by omega)⟩, by simp⟩, Nat.zero_le _⟩
  · simp [Value.cells] at hcs
    obtain ⟨rfl, rfl, rfl⟩ := hcs
    simp at hz
    refine ⟨ss.take len, ⟨⟨by rw [List.length_take]; omega, fun hn => ?_⟩, fun s hs => hws s (List.mem_of_mem_take hs)⟩, by omega⟩
    have h0 := hcell 0 (by omega)
    obtain ⟨e, hb, hadd⟩ := addr_of_cell h0
    refine ⟨a.block, a.off, by rw [← e], hb, fun i s hi => ?_⟩
    have hi' := (List.getElem?_eq_some_iff.1 hi).1
    rw [List.length_take] at hi'
    rw [List.getElem?_take, if_pos (by omega)] at hi
    rw [← hadd i, hcell i (by omega)]
    simp [List.getD_eq_getElem?_getD, hi]

def SzPost (n : Nat) (z : Int) (w : World) (e : Ending) (w' : World) : Prop := (∃ r : Int, e = .returned (.int .i64 r) ∧ -1 ≤ r ∧ r ≤ z ∧ (0 ≤ r → (n : Int) ≤ z)) ∧ w = w'

theorem sz_any (A : Option Addr) (n c : Nat) (ss : List ByteArray) (z : Int) (w : World) (hr : ArgS w A n ss) (h0 : 0 ≤ z) (hz : z ≤ 1048576) (hn : n ≤ maxLen) :
    Calls Try.prog 14 #[.slice A n c, .int .i64 z] w (SzPost n z w) := by
  unfold maxLen at hn
  have hr' := Lib.hid hr
  clear hr
  have no : ∀ w', w = w' → SzPost n z w (.returned (.int .i64 (-1))) w' := fun w' h => ⟨⟨-1, rfl, by omega, by omega, by omega⟩, h⟩
  have no' := Lib.hid no
  clear no
  by_cases hlt0 : z < (n : Int)
  · go_enter Try.func14, Try.ntmps14
    go_wp2_with fail
    go_ret
    exact no'.out _ rfl
  · have yes : ∀ r : Int, 0 ≤ r → r ≤ z → SzPost n z w (.returned (.int .i64 r)) w := fun r h1 h2 => ⟨⟨r, rfl, by omega, h2, fun _ => by omega⟩, rfl⟩
    have yes' := Lib.hid yes
    clear yes
    go_enter Try.func14, Try.ntmps14
    go_wp2_with fail
    go_loop [1, 5] (fun zv i => ∃ (k : Nat) (r : Int), k ≤ n ∧ i = .int .i64 k ∧ zv = .int .i64 r ∧ 0 ≤ r ∧ r ≤ z) (fun _ i => n - (intOf i).toNat)
    case atStart => exact ⟨0, z - n, Nat.zero_le _, rfl, rfl, by omega, by omega⟩
    case round =>
      obtain ⟨k, r, hk, rfl, rfl, hr0, hrz⟩ := hrel
      by_cases hlt : k < n
      · obtain ⟨b, o, rfl, hblt, hc⟩ := hr'.out.1.2 (by omega)
        have hl := hr'.out.1.1
        have l1 : k < ss.length := by omega
        have x1 := hc k ss[k] (List.getElem?_eq_getElem l1)
        have hsz := hr'.out.2 _ (List.getElem_mem l1)
        unfold maxLen at hsz
        generalize ss[k] = t at x1 hsz
        have i1 : (k : Int) < (n : Int) := by omega
        have i0 : (0 : Int) ≤ (k : Int) := by omega
        clear hc hl l1
        by_cases hneg : r < (t.size : Int)
        · go_wp2_with fail
          go_ret
          exact no'.out _ rfl
        · go_wp2_with fail
          go_round
          case rel => exact ⟨k + 1, r - t.size, by omega, by go_num, rfl, by omega, by omega⟩
          case measure => simp [intOf]; omega
      · go_wp2_with fail
        go_ret
        exact yes'.out r hr0 hrz

/-- What toStringS hands back: a row of its own, the same texts. -/
def TRet (ss : List ByteArray) (w : World) (e : Ending) (w' : World) : Prop :=
  ∃ A c, e = .returned (.slice A ss.length c) ∧ w'.ownsRow w.heap.size 9 1 (.slice A ss.length c) ss.length (ss.map Value.string) ∧ Below w.heap.size w w'

theorem toStr_any (A : Option Addr) (n c : Nat) (ss : List ByteArray) (w : World) (hr : RowS w A n ss) (hn : n ≤ 10000000) :
    Calls Try.prog 20 #[.slice A n c] w (TRet ss w) := by
  obtain ⟨i0, hi0, hz0, hz1, hz2⟩ := info_parts infoStr
  have hr' := Lib.hid hr
  have hl := Lib.hid hr.1
  clear hr
  go_enter Try.func20, Try.ntmps20
  go_wp2_with (at_make; go_loud (refine wpList_make_full _ rfl (.tmp 6) (.tmp 6) 22 rfl w.heap.size 9 i0 _ 1 Try.underlying22 hi0 hz0 hz1 .i64 .i64 (n : Int) (n : Int) n rfl rfl rfl rfl ?b2 ?b3 (Nat.le_refl _) ?_))
  case b2 => rw [hz2]; omega
  case b3 => unfold maxLen; omega
  intro w1 own gr
  have hb1 : Below w.heap.size w w1 := ⟨gr.os, gr.tape, gr.output, gr.size, fun k hk => gr.block k hk (by simp)⟩
  have hZ : (madeCells #[Value.string { data := #[] }] n).toList.length = n := by have := own.1; simpa using this
  generalize (madeCells #[Value.string { data := #[] }] n).toList = Z at own hZ
  have own' := Lib.hid own
  have hb1' := Lib.hid hb1
  have hZ' := Lib.hid hZ
  clear own gr hb1 hZ
  go_wp2_with fail
  go_loopw [4] (fun i wr => ∃ j : Nat, j ≤ n ∧ i = .int .i64 j ∧ wr.ownsRow w.heap.size 9 1 (.slice (some ⟨w.heap.size, 0, none⟩) n n) n ((ss.take j).map Value.string ++ Z.drop j) ∧ Below w.heap.size w wr)
    (fun i _ => n - (intOf i).toNat)
  case atStart => exact ⟨0, Nat.zero_le _, rfl, by simpa using own'.out, hb1'.out⟩
  case round =>
    obtain ⟨j, hj, rfl, own2, hb2⟩ := hrel
    have own2' := Lib.hid own2
    have hb2' := Lib.hid hb2
    by_cases hlt : j < n
    · obtain ⟨b, o, rfl, hblt, hc⟩ := hr'.out.2 (by omega)
      have l1 : j < ss.length := by have := hl.out; omega
      have x1 := (hb2.cell (p := ⟨b, o + j, none⟩) hblt).trans (hc j ss[j] (List.getElem?_eq_getElem l1))
      have hlen : ((ss.take j).map Value.string ++ Z.drop j).length = n := by simp; rw [hZ'.out]; omega
      have hcell : wr.cell? ⟨w.heap.size, j, none⟩ = some (((ss.take j).map Value.string ++ Z.drop j)[j]'(by omega)) := by
        rw [own2.cellAt j (by omega), List.getElem?_eq_getElem]
      have hfz := own2.frozenAt j
      have hst := own2.stored j (.string ss[j])
      have hset : ((ss.take j).map Value.string ++ Z.drop j).set j (.string ss[j]) = (ss.take (j + 1)).map Value.string ++ Z.drop (j + 1) := by
        have e : ((ss.take j).map Value.string).length = j := by simp; omega
        rw [List.set_append_right _ _ (by omega), e, Nat.sub_self, List.drop_eq_getElem_cons (by rw [hZ'.out]; exact hlt), List.set_cons_zero, List.take_succ_eq_append_getElem l1, List.map_append]
        simp
      rw [hset] at hst
      generalize ss[j] = t at x1 hst
      generalize ((ss.take j).map Value.string ++ Z.drop j)[j]'(by omega) = q at hcell
      have hst' := Lib.hid hst
      have i1 : (j : Int) < (n : Int) := by omega
      have i0 : (0 : Int) ≤ (j : Int) := by omega
      clear hst hset hlen hc own2 hb2
      go_wp2_with fail
      go_roundw
      case rel => exact ⟨j + 1, by omega, by go_num, hst'.out.1, hb2'.out.setCell (Nat.le_refl _) _⟩
      case measure => simp [intOf]; omega
    · have hfin : Hid (TRet ss w (.returned (.slice (some ⟨w.heap.size, 0, none⟩) n n)) wr) := by
        have o := own2'.out
        rw [List.take_of_length_le (by have := hl.out; omega), List.drop_of_length_le (by rw [hZ'.out]; omega), List.append_nil, hl.out] at o
        exact ⟨_, _, by rw [hl.out], o, hb2'.out⟩
      clear own2 hb2
      go_wp2_with fail
      go_ret
      exact hfin.out

end Go.Proofs.Ytdbdcfijeeelkaa
