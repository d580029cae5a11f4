/- impl.makeBinder. -/
import Derived.Test.YtagafoldkfgikaaMakeM
namespace Go.Proofs.Ytagafoldkfgikaa
set_option linter.unusedVariables false
open Go.RowKit

def binderO (h : Bs) : List T → Option P
  | [a, b] => mkb h (atomOf a) (toP b)
  | _ => none

theorem binder_len (h : Bs) {ts : List T} (hl : ts.length ≠ 2) : binderO h ts = none := by
  match ts, hl with
  | [], _ => rfl
  | [_], _ => rfl
  | [_, _], hl => simp at hl
  | _ :: _ :: _ :: _, _ => rfl
theorem binder_name {h : Bs} {a b : T} (hn : isName (atomOf a) = false) : binderO h [a, b] = none := by
  show mkb h (atomOf a) (toP b) = none
  cases toP b <;> simp [mkb, hn]
theorem binder_body {h : Bs} {a b : T} (hn : toP b = none) : binderO h [a, b] = none := by
  show mkb h (atomOf a) (toP b) = none
  rw [hn]; rfl
theorem binder_kind {h : Bs} {a b : T} {p : P} (hp : toP b = some p) (hn : p.kind ≠ .s) : binderO h [a, b] = none := by
  show mkb h (atomOf a) (toP b) = none
  rw [hp]; simp [mkb, hn]
theorem binder_head {h : Bs} {a b : T} (hn : bhead (atomOf a) ≠ h) : binderO h [a, b] = none := by
  show mkb h (atomOf a) (toP b) = none
  cases toP b <;> simp [mkb, hn]
theorem binder_yes {h : Bs} {a b : T} {p : P} (hp : toP b = some p) (hn : isName (atomOf a) = true) (hk : p.kind = .s) (hh : bhead (atomOf a) = h) : binderO h [a, b] = some (.bd (atomOf a) p) := by
  show mkb h (atomOf a) (toP b) = _
  rw [hp]; simp [mkb, hn, hk, hh]

theorem kname_s (k : K) : ((⟨k.name.toArray⟩ : ByteArray).toList == [115, 116, 97, 116, 101, 109, 101, 110, 116]) = decide (k = .s) := by
  rw [Lib.toList_data]; cases k <;> decide
theorem str_list (s : Bs) : (⟨s.toArray⟩ : ByteArray).toList = s := by rw [Lib.toList_data]

theorem NPost.out {a : ByteArray} {w w' : World} {e : Ending} (h : NPost a w e w') {s : Bs} (hs : a = ⟨s.toArray⟩) :
    Below w.heap.size w w' ∧ ((isName s = false ∧ e = .returned (.tuple #[.agg #[.int .u8 0, .string ⟨#[]⟩], .bool false])) ∨ (isName s = true ∧ ∃ c d, s = c :: d ∧ e = .returned (.tuple #[.agg #[.int .u8 c.toNat, .string ⟨d.toArray⟩], .bool true]))) := by
  obtain ⟨he, hb⟩ := h
  refine ⟨hb, ?_⟩
  subst hs
  rw [show (⟨s.toArray⟩ : ByteArray).data.toList = s from rfl] at he
  cases hn : isName s
  · rw [hn] at he; exact .inl ⟨rfl, he⟩
  · rw [hn] at he
    cases s with
    | nil => cases hn
    | cons c d => exact .inr ⟨rfl, c, d, rfl, he⟩

theorem three_cells {w : World} {b : Nat} {x y z : Value} {E : TypeId} (h : w.heap[b]? = some (.cells #[x, y, z] E (0, 0))) :
    w.cell? ⟨b, 0, none⟩ = some x ∧ w.cell? ⟨b, 1, none⟩ = some y ∧ w.cell? ⟨b, 2, none⟩ = some z := ⟨by simp [World.cell?, h], by simp [World.cell?, h], by simp [World.cell?, h]⟩

theorem makeBinder_len (a0 : ByteArray) (A : Option Addr) (n c : Nat) (hl : n ≠ 2) (w : World) : Calls Try.prog 46 #[.string a0, .slice A n c] w (MPost none w) := by
  have h2 : ((n : Int) != 2) = true := by rw [bne_iff_ne]; omega
  go_enter Try.func46, Try.ntmps46
  go_wp2_with fail
  go_ret2
  exact ⟨(by repeat (with_reducible first | exact hbel | exact Below.refl _ _ | refine Below.drew ?_ | refine Below.drewN ?_ _ | refine Below.alloc ?_ (by first | (simp; done) | (simp; omega) | omega | (have := Below.size hbel; simp; omega) | (have := Below.size hbel; omega)) _ | refine Below.setCell ?_ (by first | (simp; done) | (simp; omega) | omega) _)), rfl⟩

set_option maxRecDepth 100000 in
theorem makeBinder_two (k : Nat) (H : Hid (MP k)) (a0 : ByteArray) (a b : T) (g c : Nat) (w : World) (D : Nat → Prop) (hp : Parts w D g 2 [a, b]) (hD : ∀ g, D g → g < w.heap.size) (hgw : g < w.heap.size) (hk : b.sz ≤ k) :
    Calls Try.prog 46 #[.string a0, .slice (some ⟨g, 2, none⟩) 2 c] w (MPost (binderO a0.toList [a, b]) w) := by
  obtain ⟨a1, p1, n1, c1, y0, y1, t1⟩ := hp 0 a rfl
  obtain ⟨a2, p2, n2, c2, z0, z1, t2⟩ := hp 1 b rfl
  simp only [Nat.zero_mul, Nat.one_mul, Nat.reduceAdd, Nat.add_zero] at y0 y1 z0 z1
  have hD' := Lib.hid hD
  have t2' := Lib.hid t2
  have t1' := Lib.hid t1.textB
  clear hp hD t2 t1
  go_enter Try.func46, Try.ntmps46
  go_wp2_with fail
  refine Calls.mono (readName_any _ _) ?_
  intro e w1 hnp
  obtain ⟨hb1, hcase⟩ := hnp.out t1'.out
  have z0' := (hb1.cell (p := ⟨g, 4, none⟩) hgw).trans z0
  have z1' := (hb1.cell (p := ⟨g, 5, none⟩) hgw).trans z1
  have hg1 : g < w1.heap.size := Nat.lt_of_lt_of_le hgw hb1.size
  have hb1' := Lib.hid hb1
  clear hnp hb1 z0 z1 y0 y1
  cases hP : toP b with
  | none =>
    have hno := Lib.hid (fun (w' : World) hb => (show MPost (binderO a0.toList [a, b]) w (.returned (.tuple #[.nilIface, .bool false])) w' from by rw [binder_body hP]; exact ⟨hb, rfl⟩))
    have hP' := Lib.hid hP
    clear hP
    rcases hcase with ⟨hn, rfl⟩ | ⟨hn, x, d, hxd, rfl⟩
    all_goals
      clear hn
      go_wp2_with fail
      refine Calls.mono (MP.not H.out hP'.out _ hk (t2'.out.below (by have hbel := hb1'.out; exact (by repeat (with_reducible first | exact hbel | exact Below.refl _ _ | refine Below.drew ?_ | refine Below.drewN ?_ _ | refine Below.alloc ?_ (by first | (simp; done) | (simp; omega) | omega | (have := Below.size hbel; simp; omega) | (have := Below.size hbel; omega)) _ | refine Below.setCell ?_ (by first | (simp; done) | (simp; omega) | omega) _))) hD'.out) (fun g hg => by have := hD'.out g hg; have := hb1'.out.size; simp; omega)) ?_
      rintro e w2 ⟨rfl, hb2⟩
      go_wp2_with fail
      go_ret2
      exact hno.out _ (below_step (bb_alloc hb1'.out _) (by have := hb1'.out.size; simp) hb2)
  | some q =>
    have hP' := Lib.hid hP
    rcases hcase with ⟨hn, rfl⟩ | ⟨hn, x, d, hxd, rfl⟩
    · have hno := Lib.hid (fun (w' : World) hb => (show MPost (binderO a0.toList [a, b]) w (.returned (.tuple #[.nilIface, .bool false])) w' from by rw [binder_name hn]; exact ⟨hb, rfl⟩))
      clear hn hP
      go_wp2_with fail
      refine Calls.mono (MP.yes H.out hP'.out _ hk (t2'.out.below (by have hbel := hb1'.out; exact (by repeat (with_reducible first | exact hbel | exact Below.refl _ _ | refine Below.drew ?_ | refine Below.drewN ?_ _ | refine Below.alloc ?_ (by first | (simp; done) | (simp; omega) | omega | (have := Below.size hbel; simp; omega) | (have := Below.size hbel; omega)) _ | refine Below.setCell ?_ (by first | (simp; done) | (simp; omega) | omega) _))) hD'.out) (fun g hg => by have := hD'.out g hg; have := hb1'.out.size; simp; omega)) ?_
      rintro e w2 ⟨y, rfl, hb2, hy⟩
      go_wp2_with fail
      go_ret2
      exact hno.out _ (below_step (bb_alloc hb1'.out _) (by have := hb1'.out.size; simp) hb2)
    · have hn' := Lib.hid hn
      have hxd' := Lib.hid hxd
      cases hK : q.kind
      · have hno := Lib.hid (fun (w' : World) hb => (show MPost (binderO a0.toList [a, b]) w (.returned (.tuple #[.nilIface, .bool false])) w' from by rw [binder_kind hP (by rw [hK]; decide)]; exact ⟨hb, rfl⟩))
        clear hn hxd hP
        go_wp2_with fail
        refine Calls.mono (MP.yes H.out hP'.out _ hk (t2'.out.below (by have hbel := hb1'.out; exact (by repeat (with_reducible first | exact hbel | exact Below.refl _ _ | refine Below.drew ?_ | refine Below.drewN ?_ _ | refine Below.alloc ?_ (by first | (simp; done) | (simp; omega) | omega | (have := Below.size hbel; simp; omega) | (have := Below.size hbel; omega)) _ | refine Below.setCell ?_ (by first | (simp; done) | (simp; omega) | omega) _))) hD'.out) (fun g hg => by have := hD'.out g hg; have := hb1'.out.size; simp; omega)) ?_
        rintro e w2 ⟨y, rfl, hb2, hy⟩
        have mq := fun w => kind_m hy w
        have cq := fun x w => kind_c q x w
        have hy' := Lib.hid hy
        have hb2' := Lib.hid (below_step (bb_alloc hb1'.out _) (by have := hb1'.out.size; simp) hb2)
        clear hy hb2
        go_wp2_with (refine Calls.mono (kind_any (toP_ok hP'.out) _ _ _ hy'.out) ?_; rw [hK, show K.t.name = [116, 101, 114, 109] from rfl]; rintro e w3 ⟨rfl, hb3⟩)
        go_ret2
        exact hno.out _ (below_step hb2'.out (Nat.le_refl _) hb3)
      · have hno := Lib.hid (fun (w' : World) hb => (show MPost (binderO a0.toList [a, b]) w (.returned (.tuple #[.nilIface, .bool false])) w' from by rw [binder_kind hP (by rw [hK]; decide)]; exact ⟨hb, rfl⟩))
        clear hn hxd hP
        go_wp2_with fail
        refine Calls.mono (MP.yes H.out hP'.out _ hk (t2'.out.below (by have hbel := hb1'.out; exact (by repeat (with_reducible first | exact hbel | exact Below.refl _ _ | refine Below.drew ?_ | refine Below.drewN ?_ _ | refine Below.alloc ?_ (by first | (simp; done) | (simp; omega) | omega | (have := Below.size hbel; simp; omega) | (have := Below.size hbel; omega)) _ | refine Below.setCell ?_ (by first | (simp; done) | (simp; omega) | omega) _))) hD'.out) (fun g hg => by have := hD'.out g hg; have := hb1'.out.size; simp; omega)) ?_
        rintro e w2 ⟨y, rfl, hb2, hy⟩
        have mq := fun w => kind_m hy w
        have cq := fun x w => kind_c q x w
        have hy' := Lib.hid hy
        have hb2' := Lib.hid (below_step (bb_alloc hb1'.out _) (by have := hb1'.out.size; simp) hb2)
        clear hy hb2
        go_wp2_with (refine Calls.mono (kind_any (toP_ok hP'.out) _ _ _ hy'.out) ?_; rw [hK, show K.c.name = [99, 111, 116, 101, 114, 109] from rfl]; rintro e w3 ⟨rfl, hb3⟩)
        go_ret2
        exact hno.out _ (below_step hb2'.out (Nat.le_refl _) hb3)
      · cases hh : (bhead (x :: d) == a0.toList)
        · have hh1 : ((⟨(bhead (x :: d)).toArray⟩ : ByteArray).toList == a0.toList) = false := by rw [str_list, hh]
          have hno := Lib.hid (fun (w' : World) hb => (show MPost (binderO a0.toList [a, b]) w (.returned (.tuple #[.nilIface, .bool false])) w' from by rw [binder_head (by rw [hxd]; exact beq_eq_false_iff_ne.1 hh)]; exact ⟨hb, rfl⟩))
          clear hn hxd hP
          go_wp2_with fail
          refine Calls.mono (MP.yes H.out hP'.out _ hk (t2'.out.below (by have hbel := hb1'.out; exact (by repeat (with_reducible first | exact hbel | exact Below.refl _ _ | refine Below.drew ?_ | refine Below.drewN ?_ _ | refine Below.alloc ?_ (by first | (simp; done) | (simp; omega) | omega | (have := Below.size hbel; simp; omega) | (have := Below.size hbel; omega)) _ | refine Below.setCell ?_ (by first | (simp; done) | (simp; omega) | omega) _))) hD'.out) (fun g hg => by have := hD'.out g hg; have := hb1'.out.size; simp; omega)) ?_
          rintro e w2 ⟨y, rfl, hb2, hy⟩
          have mq := fun w => kind_m hy w
          have cq := fun x w => kind_c q x w
          have hbx := (hb2.block w1.heap.size (by simp)).trans (heap_alloc_new w1 _)
          have hz2 : w1.heap.size < w2.heap.size := Nat.lt_of_lt_of_le (by simp) hb2.size
          have hy' := Lib.hid hy
          have hb2' := Lib.hid (below_step (bb_alloc hb1'.out _) (by have := hb1'.out.size; simp) hb2)
          have hbx' := Lib.hid hbx
          clear hy hb2 hbx
          go_wp2_with fail
          refine Calls.mono (kind_any (toP_ok hP'.out) _ _ _ hy'.out) ?_
          rw [hK, show K.s.name = [115, 116, 97, 116, 101, 109, 101, 110, 116] from rfl]
          rintro e w3 ⟨rfl, hb3⟩
          obtain ⟨z0, r0, r1, -, -⟩ := two_cells ((hb3.block w1.heap.size hz2).trans hbx'.out)
          have hy3 := Lib.hid (hy'.out.below hb3 (fun g hg => hg.2))
          have hb3' := Lib.hid (below_step hb2'.out (Nat.le_refl _) hb3)
          have hs3 := hb3.size
          clear hb3
          go_wp2_with fail
          refine Calls.mono (headB_any _ _ _ _) ?_
          rintro e w4 ⟨rfl, hb4⟩
          obtain ⟨q0, q1, q2⟩ := three_cells ((hb4.block w3.heap.size (by simp)).trans (heap_alloc_new w3 _))
          go_wp2_with fail
          go_ret2
          exact hno.out _ (below_step (bb_alloc hb3'.out _) (by have := hb3'.out.size; simp) hb4)
        · have hh1 : ((⟨(bhead (x :: d)).toArray⟩ : ByteArray).toList == a0.toList) = true := by rw [str_list, hh]
          have hyes := Lib.hid (fun (w' : World) (y : Value) hb (hy : PI w' (New w.heap.size w') q y) => (show MPost (binderO a0.toList [a, b]) w (.returned (.tuple #[.iface 100 (.agg #[.int .u8 x.toNat, str d, .iface (pt q) y]), .bool true])) w' from by
            rw [binder_yes hP hn hK (by rw [hxd]; exact eq_of_beq hh)]; exact ⟨hb, _, rfl, x, d, y, hxd, rfl, hy⟩))
          clear hn hxd hP
          go_wp2_with fail
          refine Calls.mono (MP.yes H.out hP'.out _ hk (t2'.out.below (by have hbel := hb1'.out; exact (by repeat (with_reducible first | exact hbel | exact Below.refl _ _ | refine Below.drew ?_ | refine Below.drewN ?_ _ | refine Below.alloc ?_ (by first | (simp; done) | (simp; omega) | omega | (have := Below.size hbel; simp; omega) | (have := Below.size hbel; omega)) _ | refine Below.setCell ?_ (by first | (simp; done) | (simp; omega) | omega) _))) hD'.out) (fun g hg => by have := hD'.out g hg; have := hb1'.out.size; simp; omega)) ?_
          rintro e w2 ⟨y, rfl, hb2, hy⟩
          have mq := fun w => kind_m hy w
          have cq := fun x w => kind_c q x w
          have hbx := (hb2.block w1.heap.size (by simp)).trans (heap_alloc_new w1 _)
          have hz2 : w1.heap.size < w2.heap.size := Nat.lt_of_lt_of_le (by simp) hb2.size
          have hy' := Lib.hid hy
          have hb2' := Lib.hid (below_step (bb_alloc hb1'.out _) (by have := hb1'.out.size; simp) hb2)
          have hbx' := Lib.hid hbx
          clear hy hb2 hbx
          go_wp2_with fail
          refine Calls.mono (kind_any (toP_ok hP'.out) _ _ _ hy'.out) ?_
          rw [hK, show K.s.name = [115, 116, 97, 116, 101, 109, 101, 110, 116] from rfl]
          rintro e w3 ⟨rfl, hb3⟩
          obtain ⟨z0, r0, r1, -, -⟩ := two_cells ((hb3.block w1.heap.size hz2).trans hbx'.out)
          have hy3 := Lib.hid (hy'.out.below hb3 (fun g hg => hg.2))
          have hb3' := Lib.hid (below_step hb2'.out (Nat.le_refl _) hb3)
          have hs3 := hb3.size
          clear hb3
          go_wp2_with fail
          refine Calls.mono (headB_any _ _ _ _) ?_
          rintro e w4 ⟨rfl, hb4⟩
          obtain ⟨q0, q1, q2⟩ := three_cells ((hb4.block w3.heap.size (by simp)).trans (heap_alloc_new w3 _))
          go_wp2_with fail
          go_ret2
          refine hyes.out _ _ (below_step (bb_alloc hb3'.out _) (by have := hb3'.out.size; simp) hb4) ?_
          have s1 := hb1'.out.size
          have s4 := hb4.size
          simp at s4
          refine PI.keep (fun g hg => ?_) (fun g hg => ?_) _ _ hy3.out
          · rw [hb4.block g (by have := hg.2; simp; omega), Below.heap_alloc _ _ _ (by have := hg.2; omega)]
          · exact ⟨by have := hg.1; simp at this; omega, by have := hg.2; omega⟩

end Go.Proofs.Ytagafoldkfgikaa
