/- Lists of texts: l1Has, rows that grow. -/
import Derived.Test.YtagafoldkfgikaaStrs
namespace Go.Proofs.Ytagafoldkfgikaa
set_option linter.unusedVariables false
open Go.RowKit

/-- Is the text in the list? -/
def isIn (s : ByteArray) (l : List ByteArray) : Bool := l.any fun t => decide (t = s)
theorem isIn_iff {s : ByteArray} {l : List ByteArray} : isIn s l = true ↔ s ∈ l := by
  unfold isIn
  rw [List.any_eq_true]
  constructor
  · rintro ⟨t, ht, e⟩
    rw [← of_decide_eq_true e]; exact ht
  · intro h; exact ⟨s, h, decide_eq_true rfl⟩
theorem isIn_not {s : ByteArray} {l : List ByteArray} (h : s ∉ l) : isIn s l = false := by
  cases e : isIn s l
  · rfl
  · exact absurd (isIn_iff.1 e) h

theorem infoStr : (Try.prog.info? 9).map (fun i => (i.zero, i.size, i.bytes)) = some (some (.string ⟨#[]⟩), 1, 16) := by kernel_rfl

/-- The row of v is where that of v0 was, or in memory that is new from H on. -/
def Moved (v v0 : Value) (H : Nat) : Prop := v.ownBlock = v0.ownBlock ∨ ∃ g, v.ownBlock = some g ∧ H ≤ g
/-- A call hands back a row of the call's own with the texts ss; else it only makes memory. -/
def LRet (base : Nat) (ss : List ByteArray) (v : Value) (w : World) (e : Ending) (w' : World) : Prop :=
  ∃ A c, e = .returned (.slice A ss.length c) ∧ w'.ownsRow base 9 1 (.slice A ss.length c) ss.length (ss.map Value.string) ∧ w.grownBy w' v.ownBlock ∧ Moved (.slice A ss.length c) v w.heap.size

theorem grown_moved {w w1 w2 : World} {v v1 : Value} {base : Nat} {E : TypeId} {size n : Nat} {xs : List Value} (own : w.ownsRow base E size v n xs) (h1 : w.grownBy w1 v.ownBlock) (m1 : Moved v1 v w.heap.size) (h2 : w1.grownBy w2 v1.ownBlock) : w.grownBy w2 v.ownBlock :=
  ⟨h2.os.trans h1.os, h2.tape.trans h1.tape, h2.output.trans h1.output, Nat.le_trans h1.size h2.size, fun k hk hne => by
    rw [h2.block k (Nat.lt_of_lt_of_le hk h1.size) (fun e => ?_), h1.block k hk hne]
    rcases m1 with m1 | ⟨g, hg, hle⟩
    · exact hne (e.trans m1)
    · rw [hg] at e; injection e with e; omega⟩
theorem moved_trans {w w1 : World} {v v1 v2 : Value} (hs : w.heap.size ≤ w1.heap.size) (m1 : Moved v1 v w.heap.size) (m2 : Moved v2 v1 w1.heap.size) : Moved v2 v w.heap.size := by
  rcases m2 with m2 | ⟨g, hg, hle⟩
  · rcases m1 with m1 | ⟨g, hg, hle⟩
    · exact .inl (m2.trans m1)
    · exact .inr ⟨g, m2.trans hg, hle⟩
  · exact .inr ⟨g, hg, by omega⟩

/-- Does the list hold the text? -/
theorem has_any (A : Option Addr) (n c : Nat) (ss : List ByteArray) (s : ByteArray) (w : World) (hr : RowS w A n ss) (hn : n ≤ 100000000) :
    Calls Try.prog 27 #[.slice A n c, .string s] w fun e w' => e = .returned (.bool (isIn s ss)) ∧ w = w' := by
  by_cases h0 : n = 0
  · subst h0
    have e : ss = [] := List.eq_nil_of_length_eq_zero hr.1.symm
    subst e
    clear hr
    go_enter Try.func27, Try.ntmps27
    go_wp2_with fail
    go_loop [5] (fun i => i = .int .i64 0) (fun _ => 0)
    case atStart => rfl
    case round =>
      subst hrel
      go_wp2_with fail
      go_ret
      exact ⟨rfl, rfl⟩
  · obtain ⟨b, o, rfl, hblt, hc⟩ := hr.2 (by omega)
    have hl := Lib.hid hr.1
    have hc' := Lib.hid hc
    clear hr hc
    go_enter Try.func27, Try.ntmps27
    go_wp2_with fail
    go_loop [5] (fun i => ∃ k : Nat, k ≤ n ∧ i = .int .i64 k ∧ s ∉ ss.take k) (fun i => n - (intOf i).toNat)
    case atStart => exact ⟨0, Nat.zero_le _, rfl, by simp⟩
    case round =>
      obtain ⟨k, hk, rfl, hno⟩ := hrel
      have hno' := Lib.hid hno
      clear hno
      by_cases hlt : k < n
      · have l1 : k < ss.length := by have := hl.out; omega
        have x1 := hc'.out k ss[k] (List.getElem?_eq_getElem l1)
        have i1 : (k : Int) < (n : Int) := by omega
        have i0 : (0 : Int) ≤ (k : Int) := by omega
        generalize ht : ss[k] = t at x1
        have ht' := Lib.hid ht
        clear ht
        by_cases hst : t = s
        · have hb1 := strNe t s true (by simp [hst])
          have hin : Hid (isIn s ss = true) := by
            show isIn s ss = true
            rw [isIn_iff, ← hst, ← ht'.out]; exact List.getElem_mem l1
          clear hst
          go_wp2_with fail
          go_ret
          exact ⟨ret_bool hin.out.symm, rfl⟩
        · have hb1 := strNe t s false (by simp [hst])
          have hst' := Lib.hid hst
          clear hst
          go_wp2_with fail
          go_round
          case rel =>
            refine ⟨k + 1, by omega, by go_num, fun hm => ?_⟩
            rw [List.take_succ_eq_append_getElem l1, List.mem_append] at hm
            rcases hm with hm | hm
            · exact hno'.out hm
            · simp at hm; exact hst'.out (ht'.out.symm.trans hm.symm)
          case measure => simp [intOf]; omega
      · have hfin : Hid (isIn s ss = false) := by
          have h := hno'.out
          rw [List.take_of_length_le (by have := hl.out; omega)] at h
          exact isIn_not h
        go_wp2_with fail
        go_ret
        exact ⟨ret_bool hfin.out.symm, rfl⟩

theorem Moved.keepBlock {v v0 : Value} {H : Nat} (m : Moved v v0 H) {k : Nat} (hk : k < H) (hne : v0.ownBlock ≠ some k) : v.ownBlock ≠ some k := by
  rcases m with m | ⟨g, hg, hle⟩
  · rw [m]; exact hne
  · rw [hg]; intro e; injection e with e; omega

/-- A call hands back a row of its own with the texts ss, and a bool. -/
def SRet (ss : List ByteArray) (b : Bool) (w : World) (e : Ending) (w' : World) : Prop :=
  ∃ A c, e = .returned (.tuple #[.slice A ss.length c, .bool b]) ∧ w'.ownsRow w.heap.size 9 1 (.slice A ss.length c) ss.length (ss.map Value.string) ∧ Below w.heap.size w w'

theorem own_empty (w : World) (base : Nat) (hb : base ≤ w.heap.size) (E : TypeId) : (w.alloc (.cells #[] E)).ownsRow base E 1 (.slice (some ⟨w.heap.size, 0, none⟩) 0 0) 0 [] :=
  World.ownsRow_made w #[] 0 hb (by unfold maxLen; omega) rfl

theorem lret_below {base : Nat} {ss : List ByteArray} {v : Value} {w0 w : World} {e : Ending} {w' : World} (hb : Below w0.heap.size w0 w) (hbase : w0.heap.size ≤ base) (own : ∀ k, v.ownBlock = some k → w0.heap.size ≤ k)
    (h : w.grownBy w' v.ownBlock) : Below w0.heap.size w0 w' := hb.grown h hb.size own

theorem own_grown {w w' : World} {base base2 : Nat} {E : TypeId} {size : Nat} {v v2 : Value} {n : Nat} {xs : List Value} (h : w.ownsRow base E size v n xs) (hg : w.grownBy w' v2.ownBlock) (h2 : ∀ k, v2.ownBlock = some k → base2 ≤ k) (hlt : ∀ k, v.ownBlock = some k → k < base2) : w'.ownsRow base E size v n xs :=
  own_same h (fun j hj => hg.block j (h.lt j hj).2 (fun e => by have := h2 j e.symm; have := hlt j hj; omega))


end Go.Proofs.Ytagafoldkfgikaa
