/- Slices of strings: what they read as; the laws' own helpers (eqStringS, szStringS, toStringS, markText, markStringS, heldStringS). Lists of texts: l1Has, rows that grow. A row of the call's own is appended to another one, whether it is empty or not. spec.l2With. Lists of free names that a call of the model grows. A row of the call's own is appended to another one within a region that draws its order. -/
import Derived.Test.YtaagbnbekfogiaaGreatDoorTree
import Derived.SliceStrings
import Derived.Deep.RegionHeld3
import Derived.Deep.QuietTactic
import Derived.BigQuiet
import Derived.Deep.Upon
import Derived.Deep.RegionLaw
namespace Go.Proofs.YtaagbnbekfogiaaGreatDoor
set_option linter.unusedVariables false
open Go.RowKit

/-- The slice (A, n) reads as the texts ss. -/
def RowS (w : World) (A : Option Addr) (n : Nat) (ss : List ByteArray) : Prop :=
  n = ss.length ∧ (0 < n → ∃ b o, A = some ⟨b, o, none⟩ ∧ b < w.heap.size ∧ ∀ (i : Nat) (s : ByteArray), ss[i]? = some s → w.cell? ⟨b, o + i, none⟩ = some (.string s))

theorem RowS.below {w w' : World} {A : Option Addr} {n : Nat} {ss : List ByteArray} (h : RowS w A n ss) (hb : Below w.heap.size w w') : RowS w' A n ss := by
  refine ⟨h.1, fun hn => ?_⟩
  obtain ⟨b, o, e, hlt, hc⟩ := h.2 hn
  exact ⟨b, o, e, Nat.lt_of_lt_of_le hlt hb.size, fun i s hi => (hb.cell (p := ⟨b, o + i, none⟩) hlt).trans (hc i s hi)⟩

theorem RowS.of_own {w : World} {base : Nat} {E : TypeId} {A : Option Addr} {n c : Nat} {ss : List ByteArray} (h : w.ownsRow base E 1 (.slice A n c) n (ss.map Value.string)) : RowS w A n ss := by
  refine ⟨by have := h.1; simpa using this.symm, fun hn => ?_⟩
  obtain ⟨g, cap, hv, _, hlt⟩ := h.form hn
  have hA : A = some ⟨g, 0, none⟩ := by injection hv
  subst hA
  refine ⟨g, 0, rfl, hlt, fun i s hi => ?_⟩
  have h1 := h.cells (g := g) rfl i (.string s) (by rw [List.getElem?_map, hi]; rfl)
  have e : ({ block := g, off := 0, spot := none } : Addr).add i = ⟨g, 0 + i, none⟩ := by unfold Addr.add; split <;> simp_all
  rw [e] at h1
  exact h1

theorem strNe (s t : ByteArray) (b : Bool) (h : decide (s = t) = b) : (s.toList == t.toList) = b := by
  subst h
  rw [Bool.eq_iff_iff, Lib.toList_data, Lib.toList_data]
  simp only [beq_iff_eq, decide_eq_true_eq]
  constructor
  · intro h; exact ByteArray.ext (Array.toList_inj.1 h)
  · intro h; rw [h]

theorem grown_trans' {a b c : World} {row : Option Nat} (h : a.grownBy b row) (k : b.grownBy c row) : a.grownBy c row :=
  ⟨k.os.trans h.os, k.tape.trans h.tape, k.output.trans h.output, Nat.le_trans h.size k.size, fun i hi hne => (k.block i (Nat.lt_of_lt_of_le hi h.size) hne).trans (h.block i hi hne)⟩
theorem grown_refl' (a : World) (row : Option Nat) : a.grownBy a row := ⟨rfl, rfl, rfl, Nat.le_refl _, fun _ _ _ => rfl⟩

end Go.Proofs.YtaagbnbekfogiaaGreatDoor

namespace Go.Proofs.YtaagbnbekfogiaaGreatDoor
set_option linter.unusedVariables false
open Go.RowKit

/-- Is the text in the list? -/
def isIn (s : ByteArray) (l : List ByteArray) : Bool := l.any fun t => decide (t = s)
theorem isIn_iff {s : ByteArray} {l : List ByteArray} : isIn s l = true ↔ s ∈ l := by
  unfold isIn
  rw [List.any_eq_true]
  constructor
  · rintro ⟨t, ht, e⟩
    rw [← of_decide_eq_true e]; exact ht
  · intro h; exact ⟨s, h, decide_eq_true rfl⟩
theorem isIn_not {s : ByteArray} {l : List ByteArray} (h : s ∉ l) : isIn s l = false := by
  cases e : isIn s l
  · rfl
  · exact absurd (isIn_iff.1 e) h

theorem infoStr : (Tryz.prog.info? 9).map (fun i => (i.zero, i.size, i.bytes)) = some (some (.string ⟨#[]⟩), 1, 16) := by kernel_rfl

/-- The row of v is where that of v0 was, or in memory that is new from H on. -/
def Moved (v v0 : Value) (H : Nat) : Prop := v.ownBlock = v0.ownBlock ∨ ∃ g, v.ownBlock = some g ∧ H ≤ g
/-- A call hands back a row of the call's own with the texts ss; else it only makes memory. -/
def LRet (base : Nat) (ss : List ByteArray) (v : Value) (w : World) (e : Ending) (w' : World) : Prop :=
  ∃ A c, e = .returned (.slice A ss.length c) ∧ w'.ownsRow base 9 1 (.slice A ss.length c) ss.length (ss.map Value.string) ∧ w.grownBy w' v.ownBlock ∧ Moved (.slice A ss.length c) v w.heap.size

theorem grown_moved {w w1 w2 : World} {v v1 : Value} {base : Nat} {E : TypeId} {size n : Nat} {xs : List Value} (own : w.ownsRow base E size v n xs) (h1 : w.grownBy w1 v.ownBlock) (m1 : Moved v1 v w.heap.size) (h2 : w1.grownBy w2 v1.ownBlock) : w.grownBy w2 v.ownBlock :=
  ⟨h2.os.trans h1.os, h2.tape.trans h1.tape, h2.output.trans h1.output, Nat.le_trans h1.size h2.size, fun k hk hne => by
    rw [h2.block k (Nat.lt_of_lt_of_le hk h1.size) (fun e => ?_), h1.block k hk hne]
    rcases m1 with m1 | ⟨g, hg, hle⟩
    · exact hne (e.trans m1)
    · rw [hg] at e; injection e with e; omega⟩
theorem moved_trans {w w1 : World} {v v1 v2 : Value} (hs : w.heap.size ≤ w1.heap.size) (m1 : Moved v1 v w.heap.size) (m2 : Moved v2 v1 w1.heap.size) : Moved v2 v w.heap.size := by
  rcases m2 with m2 | ⟨g, hg, hle⟩
  · rcases m1 with m1 | ⟨g, hg, hle⟩
    · exact .inl (m2.trans m1)
    · exact .inr ⟨g, m2.trans hg, hle⟩
  · exact .inr ⟨g, hg, by omega⟩

/-- Does the list hold the text? -/
theorem has_any (A : Option Addr) (n c : Nat) (ss : List ByteArray) (s : ByteArray) (w : World) (hr : RowS w A n ss) (hn : n ≤ 100000000) :
    Calls Tryz.prog 75 #[.slice A n c, .string s] w fun e w' => e = .returned (.bool (isIn s ss)) ∧ w = w' := by
  by_cases h0 : n = 0
  · subst h0
    have e : ss = [] := List.eq_nil_of_length_eq_zero hr.1.symm
    subst e
    clear hr
    go_enter Tryz.func75, Tryz.ntmps75
    go_wp2_with fail
    go_loop [5] (fun i => i = .int .i64 0) (fun _ => 0)
    case atStart => rfl
    case round =>
      subst hrel
      go_wp2_with fail
      go_ret
      exact ⟨rfl, rfl⟩
  · obtain ⟨b, o, rfl, hblt, hc⟩ := hr.2 (by omega)
    have hl := Lib.hid hr.1
    have hc' := Lib.hid hc
    clear hr hc
    go_enter Tryz.func75, Tryz.ntmps75
    go_wp2_with fail
    go_loop [5] (fun i => ∃ k : Nat, k ≤ n ∧ i = .int .i64 k ∧ s ∉ ss.take k) (fun i => n - (intOf i).toNat)
    case atStart => exact ⟨0, Nat.zero_le _, rfl, by simp⟩
    case round =>
      obtain ⟨k, hk, rfl, hno⟩ := hrel
      have hno' := Lib.hid hno
      clear hno
      by_cases hlt : k < n
      · have l1 : k < ss.length := by have := hl.out; omega
        have x1 := hc'.out k ss[k] (List.getElem?_eq_getElem l1)
        have i1 : (k : Int) < (n : Int) := by omega
        have i0 : (0 : Int) ≤ (k : Int) := by omega
        generalize ht : ss[k] = t at x1
        have ht' := Lib.hid ht
        clear ht
        by_cases hst : t = s
        · have hb1 := strNe t s true (by simp [hst])
          have hin : Hid (isIn s ss = true) := by
            show isIn s ss = true
            rw [isIn_iff, ← hst, ← ht'.out]; exact List.getElem_mem l1
          clear hst
          go_wp2_with fail
          go_ret
          exact ⟨ret_bool hin.out.symm, rfl⟩
        · have hb1 := strNe t s false (by simp [hst])
          have hst' := Lib.hid hst
          clear hst
          go_wp2_with fail
          go_round
          case rel =>
            refine ⟨k + 1, by omega, by go_num, fun hm => ?_⟩
            rw [List.take_succ_eq_append_getElem l1, List.mem_append] at hm
            rcases hm with hm | hm
            · exact hno'.out hm
            · simp at hm; exact hst'.out (ht'.out.symm.trans hm.symm)
          case measure => simp [intOf]; omega
      · have hfin : Hid (isIn s ss = false) := by
          have h := hno'.out
          rw [List.take_of_length_le (by have := hl.out; omega)] at h
          exact isIn_not h
        go_wp2_with fail
        go_ret
        exact ⟨ret_bool hfin.out.symm, rfl⟩

theorem Moved.keepBlock {v v0 : Value} {H : Nat} (m : Moved v v0 H) {k : Nat} (hk : k < H) (hne : v0.ownBlock ≠ some k) : v.ownBlock ≠ some k := by
  rcases m with m | ⟨g, hg, hle⟩
  · rw [m]; exact hne
  · rw [hg]; intro e; injection e with e; omega

/-- A call hands back a row of its own with the texts ss, and a bool. -/
def SRet (ss : List ByteArray) (b : Bool) (w : World) (e : Ending) (w' : World) : Prop :=
  ∃ A c, e = .returned (.tuple #[.slice A ss.length c, .bool b]) ∧ w'.ownsRow w.heap.size 9 1 (.slice A ss.length c) ss.length (ss.map Value.string) ∧ Below w.heap.size w w'

theorem own_empty (w : World) (base : Nat) (hb : base ≤ w.heap.size) (E : TypeId) : (w.alloc (.cells #[] E)).ownsRow base E 1 (.slice (some ⟨w.heap.size, 0, none⟩) 0 0) 0 [] :=
  World.ownsRow_made w #[] 0 hb (by unfold maxLen; omega) rfl

theorem lret_below {base : Nat} {ss : List ByteArray} {v : Value} {w0 w : World} {e : Ending} {w' : World} (hb : Below w0.heap.size w0 w) (hbase : w0.heap.size ≤ base) (own : ∀ k, v.ownBlock = some k → w0.heap.size ≤ k)
    (h : w.grownBy w' v.ownBlock) : Below w0.heap.size w0 w' := hb.grown h hb.size own

theorem own_grown {w w' : World} {base base2 : Nat} {E : TypeId} {size : Nat} {v v2 : Value} {n : Nat} {xs : List Value} (h : w.ownsRow base E size v n xs) (hg : w.grownBy w' v2.ownBlock) (h2 : ∀ k, v2.ownBlock = some k → base2 ≤ k) (hlt : ∀ k, v.ownBlock = some k → k < base2) : w'.ownsRow base E size v n xs :=
  own_same h (fun j hj => hg.block j (h.lt j hj).2 (fun e => by have := h2 j e.symm; have := hlt j hj; omega))


end Go.Proofs.YtaagbnbekfogiaaGreatDoor

namespace Go.Proofs.YtaagbnbekfogiaaGreatDoor
set_option linter.unusedVariables false
open Go.RowKit
variable {P : Program}

theorem run_append_row {w : World} (base : Nat) (t ty e : TypeId) (i : TypeInfo) (z : Value) (size bytes : Nat) (ht : P.underlying t = some (.slice e)) (hi : P.info? e = some i) (hz : i.zero = some z)
    (hsize : i.size = size) (hby : i.bytes = bytes) (hzs : z.cells.size = size) (hsz : 0 < size)
    (v : Value) (n : Nat) (xs : List Value) (hown : w.ownsRow base e size v n xs)
    (base2 : Nat) (x : Value) (m : Nat) (news : List Value) (hx : w.ownsRow base2 e size x m news) (h1 : ∀ u ∈ news, u.oneCell' = true)
    (h63 : n + m ≤ maxLen) (hbytes : (n + m) * bytes ≤ 140737488355328) (hbase : base ≤ w.heap.size) :
    ∃ v' w', (Builtin.append_ #[t, t] ty #[v, x]).run P w = .ok v' w' ∧ w'.ownsRow base e size v' (n + m) (xs ++ news) ∧ w.grownBy w' v.ownBlock := by
  rcases hx.2 with ⟨rfl, rfl⟩ | ⟨g, cap, cur, rfl, hbg, hg, hnc, hcm, hcs, htake⟩
  · have hn : news = [] := List.eq_nil_of_length_eq_zero (by simpa using hx.1)
    subst hn
    obtain ⟨A, l, c, rfl⟩ := own_form hown
    have hlen : l = n ∧ l ≤ c := by
      rcases hown.2 with ⟨e1, e2⟩ | ⟨g, cap, cur, e1, _, _, h2, _⟩
      · injection e1 with _ h3 h4; omega
      · injection e1 with _ h3 h4; omega
    obtain ⟨rfl, hle⟩ := hlen
    refine ⟨_, _, run_append_nothing (P := P) w t t ty e i ht hi A l c hle _ ?_, by simpa using hown, ⟨rfl, rfl, rfl, Nat.le_refl _, fun _ _ _ => rfl⟩⟩
    rw [hsize]
    exact Src.ofNil w ht 0
  · obtain ⟨v', w', h2, h3, h4, -⟩ := run_append_own (P := P) w base t ty e i z size bytes ht hi hz hsize hby hzs hsz v n xs hown ⟨g, 0, none⟩ m cap news hx.1 (hx.cells (g := g) rfl) h1 h63 hbytes hbase
    exact ⟨v', w', h2, h3, h4⟩

theorem wpList_append_row {w : World} {ops : Array Oper} {rest : List Oper} {o : Oper} {a : Act} {Q : Exit → Act → World → Prop} (hgd : o.guard = none) (s x : Operand) (t : TypeId)
    (ho : o.op = .call { callee := .builtin .append, args := #[s, x], argTypes := #[t, t] })
    (base : Nat) (e : TypeId) (i : TypeInfo) (z : Value) (size bytes : Nat) (ht : P.underlying t = some (.slice e)) (hi : P.info? e = some i) (hz : i.zero = some z)
    (hsize : i.size = size) (hby : i.bytes = bytes) (hzs : z.cells.size = size) (hsz : 0 < size)
    (v : Value) (n : Nat) (xs : List Value) (hs : a.eval s = v) (hown : w.ownsRow base e size v n xs)
    (base2 : Nat) (y : Value) (m : Nat) (news : List Value) (hy : a.eval x = y) (hx : w.ownsRow base2 e size y m news) (h1 : ∀ u ∈ news, u.oneCell' = true)
    (h63 : n + m ≤ maxLen) (hbytes : (n + m) * bytes ≤ 140737488355328) (hbase : base ≤ w.heap.size)
    (h : ∀ A cap w', w'.ownsRow base e size (.slice A (n + m) cap) (n + m) (xs ++ news) → w.grownBy w' v.ownBlock → wpList P ops Q rest (a.put o.dst (.slice A (n + m) cap)) w') : wpList P ops Q (o :: rest) a w :=
  wpList_plain hgd fun K hK => by
    obtain ⟨v', w', hr, h2, h3⟩ := run_append_row base t o.type e i z size bytes ht hi hz hsize hby hzs hsz v n xs hown base2 y m news hx h1 h63 hbytes hbase
    unfold Oper.wp execOp
    simp only [ho, resolve, invoke, builtin, Sem.run_bind, Sem.run_pure, Result.andThen_ok, List.map_toArray, List.map_cons, List.map_nil, hs, hy, hr]
    obtain ⟨A, l, c, rfl⟩ := own_form h2
    have hlen : l = n + m := by
      rcases h2.2 with ⟨e1, e2⟩ | ⟨g, cap, cur, e1, _, _, h4, _⟩
      · injection e1 with _ h3 h4; omega
      · injection e1 with _ h3 h4
    subst hlen
    exact hK _ _ (h A c w' h2 h3)

end Go.Proofs.YtaagbnbekfogiaaGreatDoor

namespace Go.Proofs.YtaagbnbekfogiaaGreatDoor
set_option linter.unusedVariables false
open Go.RowKit

def bs' (s : Bs) : ByteArray := ⟨s.toArray⟩

set_option maxRecDepth 100000 in
theorem with_any (A : Option Addr) (n c : Nat) (base : Nat) (ss : List ByteArray) (s : ByteArray) (w : World) (hown : w.ownsRow base 9 1 (.slice A n c) n (ss.map Value.string)) (hn : n ≤ 100000000) :
    Calls Tryz.prog 77 #[.slice A n c, .string s] w fun e w' => ∃ A' c', e = .returned (.slice A' (n + 1) c') ∧ w'.ownsRow w.heap.size 9 1 (.slice A' (n + 1) c') (n + 1) ((ss ++ [s]).map Value.string) ∧ Below w.heap.size w w' := by
  obtain ⟨i0, hi0, hz0, hz1, hz2⟩ := info_parts infoStr
  have hown' := Lib.hid hown
  clear hown
  go_enter Tryz.func77, Tryz.ntmps77
  have hmade : Hid ((w.alloc (.cells #[] 9)).ownsRow w.heap.size 9 1 (.slice (some ⟨w.heap.size, 0, none⟩) 0 0) 0 []) := own_empty w w.heap.size (Nat.le_refl _) _
  go_wp2_with (first
    | (at_builtin; go_loud (refine wpList_append_row rfl (.tmp 5) (.tmp 6) 69 rfl w.heap.size 9 i0 _ 1 16 Tryz.underlying69 hi0 hz0 hz1 hz2 rfl (by decide) _ 0 [] rfl hmade.out base (.slice A n c) n _ rfl (hown'.out.alloc _) ?c1 ?c2 ?c3 ?c4 ?_))
    | fail)
  case c1 => intro u hu; rw [List.mem_map] at hu; obtain ⟨x, -, rfl⟩ := hu; rfl
  case c2 => unfold maxLen; omega
  case c3 => omega
  case c4 => simp
  intro A1 c1 w1 own1 gr1
  have hb1 : Hid (Below w.heap.size w w1) := Lib.hid (((Below.refl _ _).alloc (Nat.le_refl _) _ : Below w.heap.size w (w.alloc _)).grown gr1 (by simp) (fun k hk => by simp [Value.ownBlock] at hk; omega))
  have own1' := Lib.hid own1
  have hs1 := hb1.out.size
  clear own1 gr1
  go_wp2_with (first
    | (at_builtin; go_loud (refine wpList_append_lies _ rfl (.tmp 7) (.tmp 9) 69 rfl w.heap.size 9 i0 _ 1 16 Tryz.underlying69 hi0 hz0 hz1 hz2 rfl (by decide) _ _ _ rfl (own1'.out.alloc _) ⟨w1.heap.size, 0, none⟩ 1 1 [.string s] rfl rfl ?d1 ?d2 (by decide) ?d3 ?d4 ?d5 _ rfl ?_))
    | fail)
  case d1 => exact World.news_of_block (cs := #[.string s]) (heap_alloc_new _ _)
  case d2 => intro u hu; simp at hu; rw [hu]; rfl
  case d3 => unfold maxLen; omega
  case d4 => omega
  case d5 => simp; omega
  intro g cap w2 own2 gr2 hat hlt2
  have hfin := Lib.hid (show w2.ownsRow w.heap.size 9 1 (.slice (some ⟨g, 0, none⟩) (n + 1) cap) (n + 1) ((ss ++ [s]).map Value.string) from by rw [List.map_append]; exact own2)
  have hb2 := Lib.hid ((bb_alloc hb1.out _).grown gr2 (by simp; omega) (fun j hj => (own1'.out.lt j hj).1))
  clear own2 gr2 hat
  go_wp2_with fail
  go_ret
  exact ⟨_, _, rfl, hfin.out, hb2.out⟩

end Go.Proofs.YtaagbnbekfogiaaGreatDoor

namespace Go.Proofs.YtaagbnbekfogiaaGreatDoor
set_option linter.unusedVariables false
open Go.RowKit

/-- The call hands back a row of its own with the names ss, grown out of v. -/
def FRet (base : Nat) (ss : List Bs) (v : Value) (w : World) (e : Ending) (w' : World) : Prop :=
  ∃ A c, e = .returned (.slice A ss.length c) ∧ w'.ownsRow base 9 1 (.slice A ss.length c) ss.length ((ss.map bs').map Value.string) ∧ w.grownBy w' v.ownBlock ∧ Moved (.slice A ss.length c) v w.heap.size

theorem isIn_bs (s : Bs) (l : List Bs) : isIn ⟨s.toArray⟩ (l.map bs') = decide (s ∈ l) := by
  rw [Bool.eq_iff_iff, isIn_iff, decide_eq_true_iff, List.mem_map]
  constructor
  · rintro ⟨x, hx, e⟩
    have : x = s := by
      have h := congrArg (fun b : ByteArray => b.data.toList) e
      exact h
    rw [← this]; exact hx
  · intro h; exact ⟨s, h, rfl⟩

theorem FRet.from {base : Nat} {ss : List Bs} {v : Value} {w W : World} {e : Ending} {w' : World} (hW : Below w.heap.size w W) (h : FRet base ss v W e w') : FRet base ss v w e w' := by
  obtain ⟨A, c, he, own, gr, mv⟩ := h
  refine ⟨A, c, he, own, grown_trans' (below_grown hW _) gr, ?_⟩
  rcases mv with h | ⟨g, hg, hle⟩
  · exact .inl h
  · exact .inr ⟨g, hg, Nat.le_trans hW.size hle⟩

end Go.Proofs.YtaagbnbekfogiaaGreatDoor

namespace Go.Proofs.YtaagbnbekfogiaaGreatDoor
set_option linter.unusedVariables false
open Go.RowKit
variable {P : Program}

/-- The same as a step of a region. -/
theorem step_append_row {w : World} {ops : Array Oper} {o : Oper} {a : Act} {K : Act → World → Prop} {Q : Exit → Act → World → Prop} {E : Prop} (hgd : o.guard = none) (s x : Operand) (t : TypeId)
    (ho : o.op = .call { callee := .builtin .append, args := #[s, x], argTypes := #[t, t] })
    (base : Nat) (e : TypeId) (i : TypeInfo) (z : Value) (size bytes : Nat) (ht : P.underlying t = some (.slice e)) (hi : P.info? e = some i) (hz : i.zero = some z)
    (hsize : i.size = size) (hby : i.bytes = bytes) (hzs : z.cells.size = size) (hsz : 0 < size)
    (v : Value) (n : Nat) (xs : List Value) (hs : a.eval s = v) (hown : w.ownsRow base e size v n xs)
    (base2 : Nat) (y : Value) (m : Nat) (news : List Value) (hy : a.eval x = y) (hx : w.ownsRow base2 e size y m news) (h1 : ∀ u ∈ news, u.oneCell' = true)
    (h63 : n + m ≤ maxLen) (hbytes : (n + m) * bytes ≤ 140737488355328) (hbase : base ≤ w.heap.size)
    (h : ∀ A cap w', w'.ownsRow base e size (.slice A (n + m) cap) (n + m) (xs ++ news) → w.grownBy w' v.ownBlock → K (a.put o.dst (.slice A (n + m) cap)) w') :
    if Region.wanted o (yielded ops a.tmps) = true then Oper.wp P o a w K Q else E := by
  have hw : Region.wanted o (yielded ops a.tmps) = true := by simp [Region.wanted, hgd]
  rw [if_pos hw]
  obtain ⟨v', w', hr, h2, h3⟩ := run_append_row base t o.type e i z size bytes ht hi hz hsize hby hzs hsz v n xs hown base2 y m news hx h1 h63 hbytes hbase
  unfold Oper.wp execOp
  simp only [ho, resolve, invoke, builtin, Sem.run_bind, Sem.run_pure, Result.andThen_ok, List.map_toArray, List.map_cons, List.map_nil, hs, hy, hr]
  obtain ⟨A, l, c, rfl⟩ := own_form h2
  have hlen : l = n + m := by
    rcases h2.2 with ⟨e1, e2⟩ | ⟨g, cap, cur, e1, _, _, h4, _⟩
    · injection e1 with _ h3 h4; omega
    · injection e1 with _ h3 h4
  subst hlen
  exact h A c w' h2 h3

end Go.Proofs.YtaagbnbekfogiaaGreatDoor
