/- The letters of formulas: impl.addLetters, the model's l1Has and l1Letters. -/
import Derived.Test.YtmnppkmgohpmaaaFormula
import Derived.Test.YtmnppkmgohpmaaaStrs
import Derived.Test.YtmnppkmgohpmaaaMark
import Derived.Test.YtmnppkmgohpmaaaPush
namespace Go.Proofs.Ytmnppkmgohpmaaa
open Go.RowKit

/-- Is the text in the list? -/
def isIn (s : ByteArray) (l : List ByteArray) : Bool := l.any fun t => decide (t = s)
theorem isIn_iff {s : ByteArray} {l : List ByteArray} : isIn s l = true ↔ s ∈ l := by
  unfold isIn
  rw [List.any_eq_true]
  constructor
  · rintro ⟨t, ht, e⟩
    rw [← of_decide_eq_true e]; exact ht
  · intro h; exact ⟨s, h, decide_eq_true rfl⟩
theorem isIn_not {s : ByteArray} {l : List ByteArray} (h : s ∉ l) : isIn s l = false := by
  cases e : isIn s l
  · rfl
  · exact absurd (isIn_iff.1 e) h

/-- The letters of f that are not yet there are added behind the list. -/
def addL : List ByteArray → F → List ByteArray
  | acc, .lt s => if isIn ⟨s.toArray⟩ acc then acc else acc ++ [⟨s.toArray⟩]
  | acc, .an a b => addL (addL acc a) b
  | acc, .or a b => addL (addL acc a) b
  | acc, .no a => addL acc a
theorem addL_length : ∀ (f : F) (acc : List ByteArray), (addL acc f).length ≤ acc.length + f.size
  | .lt s, acc => by rw [addL, F.size]; split <;> simp
  | .an a b, acc => by have := addL_length a acc; have := addL_length b (addL acc a); rw [addL, F.size]; omega
  | .or a b, acc => by have := addL_length a acc; have := addL_length b (addL acc a); rw [addL, F.size]; omega
  | .no a, acc => by have := addL_length a acc; rw [addL, F.size]; omega

theorem as_letter_letter (v : Value) (w : World) : (Instr.typeAssert (.iface 79 v) 41 79 true).run Try.prog w = .ok (.tuple #[v, .bool true]) w := by kernel_rfl

theorem as_conjunction_letter (v : Value) (w : World) : (Instr.typeAssert (.iface 81 v) 41 79 true).run Try.prog w = .ok (.tuple #[.string ⟨#[]⟩, .bool false]) w := by kernel_rfl
theorem as_disjunction_letter (v : Value) (w : World) : (Instr.typeAssert (.iface 82 v) 41 79 true).run Try.prog w = .ok (.tuple #[.string ⟨#[]⟩, .bool false]) w := by kernel_rfl
theorem as_opposite_letter (v : Value) (w : World) : (Instr.typeAssert (.iface 84 v) 41 79 true).run Try.prog w = .ok (.tuple #[.string ⟨#[]⟩, .bool false]) w := by kernel_rfl
theorem infoStr : (Try.prog.info? 9).map (fun i => (i.zero, i.size, i.bytes)) = some (some (.string ⟨#[]⟩), 1, 16) := by kernel_rfl

/-- The row of v is where that of v0 was, or in memory that is new from H on. -/
def Moved (v v0 : Value) (H : Nat) : Prop := v.ownBlock = v0.ownBlock ∨ ∃ g, v.ownBlock = some g ∧ H ≤ g
/-- A call hands back a row of the call's own with the texts ss; else it only makes memory. -/
def LRet (base : Nat) (ss : List ByteArray) (v : Value) (w : World) (e : Ending) (w' : World) : Prop :=
  ∃ A c, e = .returned (.slice A ss.length c) ∧ w'.ownsRow base 9 1 (.slice A ss.length c) ss.length (ss.map Value.string) ∧ w.grownBy w' v.ownBlock ∧ Moved (.slice A ss.length c) v w.heap.size

theorem grown_moved {w w1 w2 : World} {v v1 : Value} {base : Nat} {E : TypeId} {size n : Nat} {xs : List Value} (own : w.ownsRow base E size v n xs) (h1 : w.grownBy w1 v.ownBlock) (m1 : Moved v1 v w.heap.size) (h2 : w1.grownBy w2 v1.ownBlock) : w.grownBy w2 v.ownBlock :=
  ⟨h2.os.trans h1.os, h2.tape.trans h1.tape, h2.output.trans h1.output, Nat.le_trans h1.size h2.size, fun k hk hne => by
    rw [h2.block k (Nat.lt_of_lt_of_le hk h1.size) (fun e => ?_), h1.block k hk hne]
    rcases m1 with m1 | ⟨g, hg, hle⟩
    · exact hne (e.trans m1)
    · rw [hg] at e; injection e with e; omega⟩
theorem moved_trans {w w1 : World} {v v1 v2 : Value} (hs : w.heap.size ≤ w1.heap.size) (m1 : Moved v1 v w.heap.size) (m2 : Moved v2 v1 w1.heap.size) : Moved v2 v w.heap.size := by
  rcases m2 with m2 | ⟨g, hg, hle⟩
  · rcases m1 with m1 | ⟨g, hg, hle⟩
    · exact .inl (m2.trans m1)
    · exact .inr ⟨g, m2.trans hg, hle⟩
  · exact .inr ⟨g, hg, by omega⟩

/-- Does the list hold the text? -/
theorem has_any (A : Option Addr) (n c : Nat) (ss : List ByteArray) (s : ByteArray) (w : World) (hr : RowS w A n ss) (hn : n ≤ 100000000) :
    Calls Try.prog 58 #[.slice A n c, .string s] w fun e w' => e = .returned (.bool (isIn s ss)) ∧ w = w' := by
  by_cases h0 : n = 0
  · subst h0
    have e : ss = [] := List.eq_nil_of_length_eq_zero hr.1.symm
    subst e
    clear hr
    go_enter Try.func58, Try.ntmps58
    go_wp2_with fail
    go_loop [5] (fun i => i = .int .i64 0) (fun _ => 0)
    case atStart => rfl
    case round =>
      subst hrel
      go_wp2_with fail
      go_ret
      exact ⟨rfl, rfl⟩
  · obtain ⟨b, o, rfl, hblt, hc⟩ := hr.2 (by omega)
    have hl := Lib.hid hr.1
    have hc' := Lib.hid hc
    clear hr hc
    go_enter Try.func58, Try.ntmps58
    go_wp2_with fail
    go_loop [5] (fun i => ∃ k : Nat, k ≤ n ∧ i = .int .i64 k ∧ s ∉ ss.take k) (fun i => n - (intOf i).toNat)
    case atStart => exact ⟨0, Nat.zero_le _, rfl, by simp⟩
    case round =>
      obtain ⟨k, hk, rfl, hno⟩ := hrel
      have hno' := Lib.hid hno
      clear hno
      by_cases hlt : k < n
      · have l1 : k < ss.length := by have := hl.out; omega
        have x1 := hc'.out k ss[k] (List.getElem?_eq_getElem l1)
        have i1 : (k : Int) < (n : Int) := by omega
        have i0 : (0 : Int) ≤ (k : Int) := by omega
        generalize ht : ss[k] = t at x1
        have ht' := Lib.hid ht
        clear ht
        by_cases hst : t = s
        · have hb1 := strNe t s true (by simp [hst])
          have hin : Hid (isIn s ss = true) := by
            show isIn s ss = true
            rw [isIn_iff, ← hst, ← ht'.out]; exact List.getElem_mem l1
          clear hst
          go_wp2_with fail
          go_ret
          exact ⟨ret_bool hin.out.symm, rfl⟩
        · have hb1 := strNe t s false (by simp [hst])
          have hst' := Lib.hid hst
          clear hst
          go_wp2_with fail
          go_round
          case rel =>
            refine ⟨k + 1, by omega, by go_num, fun hm => ?_⟩
            rw [List.take_succ_eq_append_getElem l1, List.mem_append] at hm
            rcases hm with hm | hm
            · exact hno'.out hm
            · simp at hm; exact hst'.out (ht'.out.symm.trans hm.symm)
          case measure => simp [intOf]; omega
      · have hfin : Hid (isIn s ss = false) := by
          have h := hno'.out
          rw [List.take_of_length_le (by have := hl.out; omega)] at h
          exact isIn_not h
        go_wp2_with fail
        go_ret
        exact ⟨ret_bool hfin.out.symm, rfl⟩

/-! ### The program -/
def AL (f : F) : Prop := ∀ (base : Nat) (acc : List ByteArray) (A : Option Addr) (c : Nat) (w : World), w.ownsRow base 9 1 (.slice A acc.length c) acc.length (acc.map Value.string) → base ≤ w.heap.size → acc.length + f.size ≤ 1000000 →
  Calls Try.prog 38 #[.slice A acc.length c, .iface (ft f) (fi f)] w (LRet base (addL acc f) (.slice A acc.length c) w)

set_option maxRecDepth 100000 in
theorem add_lt (s : Bs) : AL (.lt s) := by
  intro base acc A c w hown hbase hlen
  show Calls Try.prog 38 #[.slice A acc.length c, .iface 79 (.string ⟨s.toArray⟩)] w _
  obtain ⟨i0, hi0, hz0, hz1, hz2⟩ := info_parts infoStr
  rw [F.size] at hlen
  have hr := RowS.of_own hown
  have q_c := fun v w => as_letter_letter v w
  generalize hss : (⟨s.toArray⟩ : ByteArray) = S at *
  have yes : isIn S acc = true → LRet base (addL acc (.lt s)) (.slice A acc.length c) w (.returned (.slice A acc.length c)) w := fun h => by
    rw [addL, hss, if_pos h]
    exact ⟨A, c, rfl, hown, grown_refl' _ _, .inl rfl⟩
  have hno : isIn S acc = false → addL acc (.lt s) = acc ++ [S] := fun h => by rw [addL, hss, h]; rfl
  have yes' := Lib.hid yes
  have hno' := Lib.hid hno
  have hown' := Lib.hid hown
  have hbase' := Lib.hid hbase
  clear yes hno hown hss
  have hr' := Lib.hid hr
  clear hr
  go_enter Try.func38, Try.ntmps38
  go_wp2_with fail
  go_loop [17] (fun i => ∃ k : Nat, k ≤ acc.length ∧ i = .int .i64 k ∧ S ∉ acc.take k) (fun i => acc.length - (intOf i).toNat)
  case atStart => exact ⟨0, Nat.zero_le _, rfl, by simp⟩
  case round =>
    obtain ⟨k, hk, rfl, hno⟩ := hrel
    have hnot := Lib.hid hno
    clear hno
    by_cases hlt : k < acc.length
    · obtain ⟨b, o, rfl, hblt, hc⟩ := hr'.out.2 (by omega)
      have x1 := hc k acc[k] (List.getElem?_eq_getElem hlt)
      have i1 : (k : Int) < (acc.length : Int) := by omega
      have i0 : (0 : Int) ≤ (k : Int) := by omega
      generalize ht : acc[k] = t at x1
      have ht' := Lib.hid ht
      clear ht hc
      by_cases hst : t = S
      · have hb1 := strNe t S true (by simp [hst])
        have hin : Hid (isIn S acc = true) := by
          show isIn S acc = true
          rw [isIn_iff, ← hst, ← ht'.out]; exact List.getElem_mem hlt
        clear hst
        go_wp2_with fail
        go_ret
        exact yes'.out hin.out
      · have hb1 := strNe t S false (by simp [hst])
        have hst' := Lib.hid hst
        clear hst
        go_wp2_with fail
        go_round
        case rel =>
          refine ⟨k + 1, by omega, by go_num, fun hm => ?_⟩
          rw [List.take_succ_eq_append_getElem hlt, List.mem_append] at hm
          rcases hm with hm | hm
          · exact hnot.out hm
          · simp at hm; exact hst'.out (ht'.out.symm.trans hm.symm)
        case measure => simp [intOf]; omega
    · have hnin : Hid (isIn S acc = false) := by
        have h := hnot.out
        rw [List.take_of_length_le (by omega)] at h
        exact isIn_not h
      go_wp2_with (first
        | (at_builtin; go_loud (refine wpList_append_lies _ rfl (.tmp 26) (.tmp 28) 23 rfl base 9 i0 _ 1 16 Try.underlying23 hi0 hz0 hz1 hz2 rfl (by decide) _ _ _ rfl (hown'.out.alloc _) ⟨w.heap.size, 0, none⟩ 1 1 [.string S] rfl rfl ?c1 ?c2 (by decide) ?c3 ?c4 ?c5 _ rfl ?_))
        | fail)
      case c2 => rfl
      case c3 => unfold maxLen; omega
      case c4 => omega
      case c5 => have := hbase'.out; omega
      intro g cap w2 hown2 hgrow hat hlt2
      have hfin : Hid (LRet base (addL acc (.lt s)) (.slice A acc.length c) w (.returned (.slice (some ⟨g, 0, none⟩) (acc.length + 1) cap)) w2) := by
        rw [hno'.out hnin.out]
        refine ⟨some ⟨g, 0, none⟩, cap, by simp, by simpa using hown2, grown_trans' (World.grownBy_alloc w _ _) hgrow, ?_⟩
        rcases hat with h | h
        · exact .inl h.symm
        · exact .inr ⟨g, rfl, by rw [h]; simp⟩
      clear hown2 hgrow hat
      go_wp2_with fail
      go_ret
      exact hfin.out

theorem Moved.keepBlock {v v0 : Value} {H : Nat} (m : Moved v v0 H) {k : Nat} (hk : k < H) (hne : v0.ownBlock ≠ some k) : v.ownBlock ≠ some k := by
  rcases m with m | ⟨g, hg, hle⟩
  · rw [m]; exact hne
  · rw [hg]; intro e; injection e with e; omega


set_option maxRecDepth 100000 in
theorem add_an (a b : F) (ha : Hid (AL a)) (hb : Hid (AL b)) : AL (.an a b) := by
  intro base acc A c w hown hbase hlen
  show Calls Try.prog 38 #[.slice A acc.length c, .iface 81 (.agg #[.iface (ft a) (fi a), .iface (ft b) (fi b)])] w (LRet base (addL (addL acc a) b) (.slice A acc.length c) w)
  rw [F.size] at hlen
  have hla := addL_length a acc
  have q_l := fun v w => as_conjunction_letter v w
  have q_c := fun v w => as_conjunction_conjunction v w
  have q_d := fun v w => as_conjunction_disjunction v w
  have hlt : ∀ k, (Value.slice A acc.length c).ownBlock = some k → k < w.heap.size := fun k h => (hown.lt k h).2
  have hS : Hid (∀ W' : World, W'.heap[w.heap.size]? = some (.cells #[.iface (ft a) (fi a), .iface (ft b) (fi b)] 81 (0, 0)) → W'.cell? ⟨w.heap.size, 0, none⟩ = some (.iface (ft a) (fi a)) ∧ W'.cell? ⟨w.heap.size, 1, none⟩ = some (.iface (ft b) (fi b))) := fun W' h =>
    ⟨(two_cells h).2.1, (two_cells h).2.2.1⟩
  have hbx := heap_alloc_new w (.cells #[.iface (ft a) (fi a), .iface (ft b) (fi b)] 81)
  have hbx' := Lib.hid hbx
  have hown' := Lib.hid hown
  have hlt' := Lib.hid hlt
  have hla' := Lib.hid hla
  have hbase' := Lib.hid hbase
  clear hbx hown hlt hla hbase
  go_enter Try.func38, Try.ntmps38
  go_wp2_with fail
  go_region_held3 (fun w' => w'.cell? ⟨w.heap.size, 0, none⟩ = some (.iface (ft a) (fi a)) ∧ w'.cell? ⟨w.heap.size, 1, none⟩ = some (.iface (ft b) (fi b)))
    (first | exact hS.out _ hbx'.out | exact hS.out _ hx1 | exact hS.out _ hx2)
    (first
      | (go_at_call_of 38 (fi a); refine Calls.mono (ha.out base acc A c _ (hown'.out.alloc _) (by have := hbase'.out; simp; omega) (by omega)) ?_; rintro e w1 ⟨A1, c1, rfl, own1, gr1, mv1⟩; have hx1 : w1.heap[w.heap.size]? = some (.cells #[.iface (ft a) (fi a), .iface (ft b) (fi b)] 81 (0, 0)) := (gr1.block _ (by simp) (fun e => by have := hlt'.out _ e.symm; omega)).trans hbx'.out)
      | (go_at_call_of 38 (fi b); refine Calls.mono (hb.out base (addL acc a) A1 c1 _ own1 (by have := hbase'.out; have := gr1.size; simp at this; omega) (by have := hla'.out; omega)) ?_; rintro e w2 ⟨A2, c2, rfl, own2, gr2, mv2⟩; have hx2 : w2.heap[w.heap.size]? = some (.cells #[.iface (ft a) (fi a), .iface (ft b) (fi b)] 81 (0, 0)) := (gr2.block _ (by have := gr1.size; simp at this; omega) (fun e => by have h := mv1.keepBlock (k := w.heap.size) (by simp) (fun e => by have := hlt'.out _ e; omega); exact h e.symm)).trans hx1))
  go_wp2_with fail
  go_ret
  have hg0 : w.grownBy (w.alloc (.cells #[.iface (ft a) (fi a), .iface (ft b) (fi b)] 81)).drew (Value.slice A acc.length c).ownBlock := ⟨rfl, rfl, rfl, by simp, fun k hk _ => Below.heap_alloc w _ k hk⟩
  have g1 := grown_trans' hg0 gr1
  have m1 : Moved (.slice A1 (addL acc a).length c1) (.slice A acc.length c) w.heap.size := moved_trans (w1 := w.alloc (.cells #[.iface (ft a) (fi a), .iface (ft b) (fi b)] 81)) (by simp) (.inl rfl) mv1
  exact ⟨A2, c2, rfl, own2, grown_moved hown'.out g1 m1 gr2, moved_trans g1.size m1 mv2⟩

set_option maxRecDepth 100000 in
theorem add_or (a b : F) (ha : Hid (AL a)) (hb : Hid (AL b)) : AL (.or a b) := by
  intro base acc A c w hown hbase hlen
  show Calls Try.prog 38 #[.slice A acc.length c, .iface 82 (.agg #[.iface (ft a) (fi a), .iface (ft b) (fi b)])] w (LRet base (addL (addL acc a) b) (.slice A acc.length c) w)
  rw [F.size] at hlen
  have hla := addL_length a acc
  have q_l := fun v w => as_disjunction_letter v w
  have q_c := fun v w => as_disjunction_conjunction v w
  have q_d := fun v w => as_disjunction_disjunction v w
  have hlt : ∀ k, (Value.slice A acc.length c).ownBlock = some k → k < w.heap.size := fun k h => (hown.lt k h).2
  have hS : Hid (∀ W' : World, W'.heap[w.heap.size]? = some (.cells #[.iface (ft a) (fi a), .iface (ft b) (fi b)] 82 (0, 0)) → W'.cell? ⟨w.heap.size, 0, none⟩ = some (.iface (ft a) (fi a)) ∧ W'.cell? ⟨w.heap.size, 1, none⟩ = some (.iface (ft b) (fi b))) := fun W' h =>
    ⟨(two_cells h).2.1, (two_cells h).2.2.1⟩
  have hbx := heap_alloc_new w (.cells #[.iface (ft a) (fi a), .iface (ft b) (fi b)] 82)
  have hbx' := Lib.hid hbx
  have hown' := Lib.hid hown
  have hlt' := Lib.hid hlt
  have hla' := Lib.hid hla
  have hbase' := Lib.hid hbase
  clear hbx hown hlt hla hbase
  go_enter Try.func38, Try.ntmps38
  go_wp2_with fail
  go_region_held3 (fun w' => w'.cell? ⟨w.heap.size, 0, none⟩ = some (.iface (ft a) (fi a)) ∧ w'.cell? ⟨w.heap.size, 1, none⟩ = some (.iface (ft b) (fi b)))
    (first | exact hS.out _ hbx'.out | exact hS.out _ hx1 | exact hS.out _ hx2)
    (first
      | (go_at_call_of 38 (fi a); refine Calls.mono (ha.out base acc A c _ (hown'.out.alloc _) (by have := hbase'.out; simp; omega) (by omega)) ?_; rintro e w1 ⟨A1, c1, rfl, own1, gr1, mv1⟩; have hx1 : w1.heap[w.heap.size]? = some (.cells #[.iface (ft a) (fi a), .iface (ft b) (fi b)] 82 (0, 0)) := (gr1.block _ (by simp) (fun e => by have := hlt'.out _ e.symm; omega)).trans hbx'.out)
      | (go_at_call_of 38 (fi b); refine Calls.mono (hb.out base (addL acc a) A1 c1 _ own1 (by have := hbase'.out; have := gr1.size; simp at this; omega) (by have := hla'.out; omega)) ?_; rintro e w2 ⟨A2, c2, rfl, own2, gr2, mv2⟩; have hx2 : w2.heap[w.heap.size]? = some (.cells #[.iface (ft a) (fi a), .iface (ft b) (fi b)] 82 (0, 0)) := (gr2.block _ (by have := gr1.size; simp at this; omega) (fun e => by have h := mv1.keepBlock (k := w.heap.size) (by simp) (fun e => by have := hlt'.out _ e; omega); exact h e.symm)).trans hx1))
  go_wp2_with fail
  go_ret
  have hg0 : w.grownBy (w.alloc (.cells #[.iface (ft a) (fi a), .iface (ft b) (fi b)] 82)).drew (Value.slice A acc.length c).ownBlock := ⟨rfl, rfl, rfl, by simp, fun k hk _ => Below.heap_alloc w _ k hk⟩
  have g1 := grown_trans' hg0 gr1
  have m1 : Moved (.slice A1 (addL acc a).length c1) (.slice A acc.length c) w.heap.size := moved_trans (w1 := w.alloc (.cells #[.iface (ft a) (fi a), .iface (ft b) (fi b)] 82)) (by simp) (.inl rfl) mv1
  exact ⟨A2, c2, rfl, own2, grown_moved hown'.out g1 m1 gr2, moved_trans g1.size m1 mv2⟩

set_option maxRecDepth 100000 in
theorem add_no (a : F) (ha : Hid (AL a)) : AL (.no a) := by
  intro base acc A c w hown hbase hlen
  show Calls Try.prog 38 #[.slice A acc.length c, .iface 84 (.agg #[.iface (ft a) (fi a)])] w (LRet base (addL acc a) (.slice A acc.length c) w)
  rw [F.size] at hlen
  have q_l := fun v w => as_opposite_letter v w
  have q_c := fun v w => as_opposite_conjunction v w
  have q_d := fun v w => as_opposite_disjunction v w
  have q_o := fun v w => as_opposite_opposite v w
  have hown' := Lib.hid hown
  have hbase' := Lib.hid hbase
  clear hown hbase
  go_enter Try.func38, Try.ntmps38
  go_wp2_with fail
  refine Calls.mono (ha.out base acc A c _ (hown'.out.alloc _) (by have := hbase'.out; simp; omega) (by omega)) ?_
  rintro e w1 ⟨A1, c1, rfl, own1, gr1, mv1⟩
  go_wp2_with fail
  go_ret
  exact ⟨A1, c1, rfl, own1, grown_trans' (World.grownBy_alloc w _ _) gr1, moved_trans (w1 := w.alloc (.cells #[.iface (ft a) (fi a)] 84)) (by simp) (.inl rfl) mv1⟩

theorem add_of : ∀ f : F, AL f
  | .lt s => add_lt s
  | .an a b => add_an a b (add_of a) (add_of b)
  | .or a b => add_or a b (add_of a) (add_of b)
  | .no a => add_no a (add_of a)

end Go.Proofs.Ytmnppkmgohpmaaa
