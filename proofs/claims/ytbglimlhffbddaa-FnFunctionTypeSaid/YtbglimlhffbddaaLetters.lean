/- The letters of formulas: impl.addLetters, the model's l1Has and l1Letters. -/
import Derived.Test.YtbglimlhffbddaaHas
import Derived.Test.YtbglimlhffbddaaFormula
import Derived.Test.YtbglimlhffbddaaStrs
import Derived.Test.YtbglimlhffbddaaMark
import Derived.Test.YtbglimlhffbddaaPush
namespace Go.Proofs.Ytbglimlhffbddaa
set_option linter.unusedVariables false
open Go.RowKit

/-- The letters of f that are not yet there are added behind the list. -/
def addL : List ByteArray → F → List ByteArray
  | acc, .lt s => if isIn ⟨s.toArray⟩ acc then acc else acc ++ [⟨s.toArray⟩]
  | acc, .an a b => addL (addL acc a) b
  | acc, .or a b => addL (addL acc a) b
  | acc, .no a => addL acc a
theorem addL_length : ∀ (f : F) (acc : List ByteArray), (addL acc f).length ≤ acc.length + f.size
  | .lt s, acc => by rw [addL, F.size]; split <;> simp
  | .an a b, acc => by have := addL_length a acc; have := addL_length b (addL acc a); rw [addL, F.size]; omega
  | .or a b, acc => by have := addL_length a acc; have := addL_length b (addL acc a); rw [addL, F.size]; omega
  | .no a, acc => by have := addL_length a acc; rw [addL, F.size]; omega

theorem as_letter_letter (v : Value) (w : World) : (Instr.typeAssert (.iface 79 v) 36 79 true).run Try.prog w = .ok (.tuple #[v, .bool true]) w := by kernel_rfl

theorem as_conjunction_letter (v : Value) (w : World) : (Instr.typeAssert (.iface 43 v) 36 79 true).run Try.prog w = .ok (.tuple #[.string ⟨#[]⟩, .bool false]) w := by kernel_rfl
theorem as_disjunction_letter (v : Value) (w : World) : (Instr.typeAssert (.iface 83 v) 36 79 true).run Try.prog w = .ok (.tuple #[.string ⟨#[]⟩, .bool false]) w := by kernel_rfl
theorem as_opposite_letter (v : Value) (w : World) : (Instr.typeAssert (.iface 41 v) 36 79 true).run Try.prog w = .ok (.tuple #[.string ⟨#[]⟩, .bool false]) w := by kernel_rfl
/-! ### The program -/
def AL (f : F) : Prop := ∀ (base : Nat) (acc : List ByteArray) (A : Option Addr) (c : Nat) (w : World), w.ownsRow base 9 1 (.slice A acc.length c) acc.length (acc.map Value.string) → base ≤ w.heap.size → acc.length + f.size ≤ 1000000 →
  Calls Try.prog 24 #[.slice A acc.length c, .iface (ft f) (fi f)] w (LRet base (addL acc f) (.slice A acc.length c) w)

set_option maxRecDepth 100000 in
theorem add_lt (s : Bs) : AL (.lt s) := by
  intro base acc A c w hown hbase hlen
  show Calls Try.prog 24 #[.slice A acc.length c, .iface 79 (.string ⟨s.toArray⟩)] w _
  obtain ⟨i0, hi0, hz0, hz1, hz2⟩ := info_parts infoStr
  rw [F.size] at hlen
  have hr := RowS.of_own hown
  have q_c := fun v w => as_letter_letter v w
  generalize hss : (⟨s.toArray⟩ : ByteArray) = S at *
  have yes : isIn S acc = true → LRet base (addL acc (.lt s)) (.slice A acc.length c) w (.returned (.slice A acc.length c)) w := fun h => by
    rw [addL, hss, if_pos h]
    exact ⟨A, c, rfl, hown, grown_refl' _ _, .inl rfl⟩
  have hno : isIn S acc = false → addL acc (.lt s) = acc ++ [S] := fun h => by rw [addL, hss, h]; rfl
  have yes' := Lib.hid yes
  have hno' := Lib.hid hno
  have hown' := Lib.hid hown
  have hbase' := Lib.hid hbase
  clear yes hno hown hss
  have hr' := Lib.hid hr
  clear hr
  go_enter Try.func24, Try.ntmps24
  go_wp2_with fail
  go_loop [17] (fun i => ∃ k : Nat, k ≤ acc.length ∧ i = .int .i64 k ∧ S ∉ acc.take k) (fun i => acc.length - (intOf i).toNat)
  case atStart => exact ⟨0, Nat.zero_le _, rfl, by simp⟩
  case round =>
    obtain ⟨k, hk, rfl, hno⟩ := hrel
    have hnot := Lib.hid hno
    clear hno
    by_cases hlt : k < acc.length
    · obtain ⟨b, o, rfl, hblt, hc⟩ := hr'.out.2 (by omega)
      have x1 := hc k acc[k] (List.getElem?_eq_getElem hlt)
      have i1 : (k : Int) < (acc.length : Int) := by omega
      have i0 : (0 : Int) ≤ (k : Int) := by omega
      generalize ht : acc[k] = t at x1
      have ht' := Lib.hid ht
      clear ht hc
      by_cases hst : t = S
      · have hb1 := strNe t S true (by simp [hst])
        have hin : Hid (isIn S acc = true) := by
          show isIn S acc = true
          rw [isIn_iff, ← hst, ← ht'.out]; exact List.getElem_mem hlt
        clear hst
        go_wp2_with fail
        go_ret
        exact yes'.out hin.out
      · have hb1 := strNe t S false (by simp [hst])
        have hst' := Lib.hid hst
        clear hst
        go_wp2_with fail
        go_round
        case rel =>
          refine ⟨k + 1, by omega, by go_num, fun hm => ?_⟩
          rw [List.take_succ_eq_append_getElem hlt, List.mem_append] at hm
          rcases hm with hm | hm
          · exact hnot.out hm
          · simp at hm; exact hst'.out (ht'.out.symm.trans hm.symm)
        case measure => simp [intOf]; omega
    · have hnin : Hid (isIn S acc = false) := by
        have h := hnot.out
        rw [List.take_of_length_le (by omega)] at h
        exact isIn_not h
      go_wp2_with (first
        | (at_builtin; go_loud (refine wpList_append_lies _ rfl (.tmp 26) (.tmp 28) 27 rfl base 9 i0 _ 1 16 Try.underlying27 hi0 hz0 hz1 hz2 rfl (by decide) _ _ _ rfl (hown'.out.alloc _) ⟨w.heap.size, 0, none⟩ 1 1 [.string S] rfl rfl ?c1 ?c2 (by decide) ?c3 ?c4 ?c5 _ rfl ?_))
        | fail)
      case c2 => rfl
      case c3 => unfold maxLen; omega
      case c4 => omega
      case c5 => have := hbase'.out; omega
      intro g cap w2 hown2 hgrow hat hlt2
      have hfin : Hid (LRet base (addL acc (.lt s)) (.slice A acc.length c) w (.returned (.slice (some ⟨g, 0, none⟩) (acc.length + 1) cap)) w2) := by
        rw [hno'.out hnin.out]
        refine ⟨some ⟨g, 0, none⟩, cap, by simp, by simpa using hown2, grown_trans' (World.grownBy_alloc w _ _) hgrow, ?_⟩
        rcases hat with h | h
        · exact .inl h.symm
        · exact .inr ⟨g, rfl, by rw [h]; simp⟩
      clear hown2 hgrow hat
      go_wp2_with fail
      go_ret
      exact hfin.out

set_option maxRecDepth 100000 in
theorem add_an (a b : F) (ha : Hid (AL a)) (hb : Hid (AL b)) : AL (.an a b) := by
  intro base acc A c w hown hbase hlen
  show Calls Try.prog 24 #[.slice A acc.length c, .iface 43 (.agg #[.iface (ft a) (fi a), .iface (ft b) (fi b)])] w (LRet base (addL (addL acc a) b) (.slice A acc.length c) w)
  rw [F.size] at hlen
  have hla := addL_length a acc
  have q_l := fun v w => as_conjunction_letter v w
  have q_c := fun v w => as_conjunction_conjunction v w
  have q_d := fun v w => as_conjunction_disjunction v w
  have hlt : ∀ k, (Value.slice A acc.length c).ownBlock = some k → k < w.heap.size := fun k h => (hown.lt k h).2
  have hS : Hid (∀ W' : World, W'.heap[w.heap.size]? = some (.cells #[.iface (ft a) (fi a), .iface (ft b) (fi b)] 43 (0, 0)) → W'.cell? ⟨w.heap.size, 0, none⟩ = some (.iface (ft a) (fi a)) ∧ W'.cell? ⟨w.heap.size, 1, none⟩ = some (.iface (ft b) (fi b))) := fun W' h =>
    ⟨(two_cells h).2.1, (two_cells h).2.2.1⟩
  have hbx := heap_alloc_new w (.cells #[.iface (ft a) (fi a), .iface (ft b) (fi b)] 43)
  have hbx' := Lib.hid hbx
  have hown' := Lib.hid hown
  have hlt' := Lib.hid hlt
  have hla' := Lib.hid hla
  have hbase' := Lib.hid hbase
  clear hbx hown hlt hla hbase
  go_enter Try.func24, Try.ntmps24
  go_wp2_with fail
  go_region_held3 (fun w' => w'.cell? ⟨w.heap.size, 0, none⟩ = some (.iface (ft a) (fi a)) ∧ w'.cell? ⟨w.heap.size, 1, none⟩ = some (.iface (ft b) (fi b)))
    (first | exact hS.out _ hbx'.out | exact hS.out _ hx1 | exact hS.out _ hx2)
    (first
      | (go_at_call_of 24 (fi a); refine Calls.mono (ha.out base acc A c _ (hown'.out.alloc _) (by have := hbase'.out; simp; omega) (by omega)) ?_; rintro e w1 ⟨A1, c1, rfl, own1, gr1, mv1⟩; have hx1 : w1.heap[w.heap.size]? = some (.cells #[.iface (ft a) (fi a), .iface (ft b) (fi b)] 43 (0, 0)) := (gr1.block _ (by simp) (fun e => by have := hlt'.out _ e.symm; omega)).trans hbx'.out)
      | (go_at_call_of 24 (fi b); refine Calls.mono (hb.out base (addL acc a) A1 c1 _ own1 (by have := hbase'.out; have := gr1.size; simp at this; omega) (by have := hla'.out; omega)) ?_; rintro e w2 ⟨A2, c2, rfl, own2, gr2, mv2⟩; have hx2 : w2.heap[w.heap.size]? = some (.cells #[.iface (ft a) (fi a), .iface (ft b) (fi b)] 43 (0, 0)) := (gr2.block _ (by have := gr1.size; simp at this; omega) (fun e => by have h := mv1.keepBlock (k := w.heap.size) (by simp) (fun e => by have := hlt'.out _ e; omega); exact h e.symm)).trans hx1))
  go_wp2_with fail
  go_ret
  have hg0 : w.grownBy (w.alloc (.cells #[.iface (ft a) (fi a), .iface (ft b) (fi b)] 43)).drew (Value.slice A acc.length c).ownBlock := ⟨rfl, rfl, rfl, by simp, fun k hk _ => Below.heap_alloc w _ k hk⟩
  have g1 := grown_trans' hg0 gr1
  have m1 : Moved (.slice A1 (addL acc a).length c1) (.slice A acc.length c) w.heap.size := moved_trans (w1 := w.alloc (.cells #[.iface (ft a) (fi a), .iface (ft b) (fi b)] 43)) (by simp) (.inl rfl) mv1
  exact ⟨A2, c2, rfl, own2, grown_moved hown'.out g1 m1 gr2, moved_trans g1.size m1 mv2⟩

set_option maxRecDepth 100000 in
theorem add_or (a b : F) (ha : Hid (AL a)) (hb : Hid (AL b)) : AL (.or a b) := by
  intro base acc A c w hown hbase hlen
  show Calls Try.prog 24 #[.slice A acc.length c, .iface 83 (.agg #[.iface (ft a) (fi a), .iface (ft b) (fi b)])] w (LRet base (addL (addL acc a) b) (.slice A acc.length c) w)
  rw [F.size] at hlen
  have hla := addL_length a acc
  have q_l := fun v w => as_disjunction_letter v w
  have q_c := fun v w => as_disjunction_conjunction v w
  have q_d := fun v w => as_disjunction_disjunction v w
  have hlt : ∀ k, (Value.slice A acc.length c).ownBlock = some k → k < w.heap.size := fun k h => (hown.lt k h).2
  have hS : Hid (∀ W' : World, W'.heap[w.heap.size]? = some (.cells #[.iface (ft a) (fi a), .iface (ft b) (fi b)] 83 (0, 0)) → W'.cell? ⟨w.heap.size, 0, none⟩ = some (.iface (ft a) (fi a)) ∧ W'.cell? ⟨w.heap.size, 1, none⟩ = some (.iface (ft b) (fi b))) := fun W' h =>
    ⟨(two_cells h).2.1, (two_cells h).2.2.1⟩
  have hbx := heap_alloc_new w (.cells #[.iface (ft a) (fi a), .iface (ft b) (fi b)] 83)
  have hbx' := Lib.hid hbx
  have hown' := Lib.hid hown
  have hlt' := Lib.hid hlt
  have hla' := Lib.hid hla
  have hbase' := Lib.hid hbase
  clear hbx hown hlt hla hbase
  go_enter Try.func24, Try.ntmps24
  go_wp2_with fail
  go_region_held3 (fun w' => w'.cell? ⟨w.heap.size, 0, none⟩ = some (.iface (ft a) (fi a)) ∧ w'.cell? ⟨w.heap.size, 1, none⟩ = some (.iface (ft b) (fi b)))
    (first | exact hS.out _ hbx'.out | exact hS.out _ hx1 | exact hS.out _ hx2)
    (first
      | (go_at_call_of 24 (fi a); refine Calls.mono (ha.out base acc A c _ (hown'.out.alloc _) (by have := hbase'.out; simp; omega) (by omega)) ?_; rintro e w1 ⟨A1, c1, rfl, own1, gr1, mv1⟩; have hx1 : w1.heap[w.heap.size]? = some (.cells #[.iface (ft a) (fi a), .iface (ft b) (fi b)] 83 (0, 0)) := (gr1.block _ (by simp) (fun e => by have := hlt'.out _ e.symm; omega)).trans hbx'.out)
      | (go_at_call_of 24 (fi b); refine Calls.mono (hb.out base (addL acc a) A1 c1 _ own1 (by have := hbase'.out; have := gr1.size; simp at this; omega) (by have := hla'.out; omega)) ?_; rintro e w2 ⟨A2, c2, rfl, own2, gr2, mv2⟩; have hx2 : w2.heap[w.heap.size]? = some (.cells #[.iface (ft a) (fi a), .iface (ft b) (fi b)] 83 (0, 0)) := (gr2.block _ (by have := gr1.size; simp at this; omega) (fun e => by have h := mv1.keepBlock (k := w.heap.size) (by simp) (fun e => by have := hlt'.out _ e; omega); exact h e.symm)).trans hx1))
  go_wp2_with fail
  go_ret
  have hg0 : w.grownBy (w.alloc (.cells #[.iface (ft a) (fi a), .iface (ft b) (fi b)] 83)).drew (Value.slice A acc.length c).ownBlock := ⟨rfl, rfl, rfl, by simp, fun k hk _ => Below.heap_alloc w _ k hk⟩
  have g1 := grown_trans' hg0 gr1
  have m1 : Moved (.slice A1 (addL acc a).length c1) (.slice A acc.length c) w.heap.size := moved_trans (w1 := w.alloc (.cells #[.iface (ft a) (fi a), .iface (ft b) (fi b)] 83)) (by simp) (.inl rfl) mv1
  exact ⟨A2, c2, rfl, own2, grown_moved hown'.out g1 m1 gr2, moved_trans g1.size m1 mv2⟩

set_option maxRecDepth 100000 in
theorem add_no (a : F) (ha : Hid (AL a)) : AL (.no a) := by
  intro base acc A c w hown hbase hlen
  show Calls Try.prog 24 #[.slice A acc.length c, .iface 41 (.agg #[.iface (ft a) (fi a)])] w (LRet base (addL acc a) (.slice A acc.length c) w)
  rw [F.size] at hlen
  have q_l := fun v w => as_opposite_letter v w
  have q_c := fun v w => as_opposite_conjunction v w
  have q_d := fun v w => as_opposite_disjunction v w
  have q_o := fun v w => as_opposite_opposite v w
  have hown' := Lib.hid hown
  have hbase' := Lib.hid hbase
  clear hown hbase
  go_enter Try.func24, Try.ntmps24
  go_wp2_with fail
  refine Calls.mono (ha.out base acc A c _ (hown'.out.alloc _) (by have := hbase'.out; simp; omega) (by omega)) ?_
  rintro e w1 ⟨A1, c1, rfl, own1, gr1, mv1⟩
  go_wp2_with fail
  go_ret
  exact ⟨A1, c1, rfl, own1, grown_trans' (World.grownBy_alloc w _ _) gr1, moved_trans (w1 := w.alloc (.cells #[.iface (ft a) (fi a)] 41)) (by simp) (.inl rfl) mv1⟩

theorem add_of : ∀ f : F, AL f
  | .lt s => add_lt s
  | .an a b => add_an a b (add_of a) (add_of b)
  | .or a b => add_or a b (add_of a) (add_of b)
  | .no a => add_no a (add_of a)

end Go.Proofs.Ytbglimlhffbddaa
