/- impl.makeForm. -/
import Derived.Test.YtagafoldkfgikaaMakeB
namespace Go.Proofs.Ytagafoldkfgikaa
set_option linter.unusedVariables false
open Go.RowKit

/-- What makeForm answers, behind a head that binds nothing. -/
def formO (h : Bs) (ts : List T) : Option P := toP (.node (.atom h :: ts))

theorem makeForm_none (a0 : ByteArray) (A : Option Addr) (n c : Nat) (hs : shapeL a0.toList = none) (w : World) : Calls Try.prog 47 #[.string a0, .slice A n c] w (MPost none w) := by
  have call := fun W => shapeOf_any a0 W
  unfold ShPost at call
  rw [hs] at call
  have call' := Lib.hid call
  have hf := field_parts
  clear call
  go_enter Try.func47, Try.ntmps47
  go_wp2_with (go_at_call 60; refine Calls.mono (call'.out _) ?_; rintro e w1 ⟨hb1, rfl⟩)
  go_ret2
  exact ⟨hb1, rfl⟩

theorem makeForm_len (a0 : ByteArray) (A : Option Addr) (n c : Nat) {k : K} {d : Bs} {ks : List K} (hs : shapeL a0.toList = some (k, d, ks)) (hl : n ≠ ks.length) (w : World) : Calls Try.prog 47 #[.string a0, .slice A n c] w (MPost none w) := by
  have call := fun W => shapeOf_any a0 W
  unfold ShPost at call
  rw [hs] at call
  have call' := Lib.hid call
  have hf := field_parts
  have h1 : ks.length ≠ 0 := by rcases shape_some hs with ⟨l, rfl, -⟩ | ⟨l, m, rfl, -⟩ <;> simp
  have h0 : ((ks.length : Int) == 0) = false := by rw [beq_eq_false_iff_ne]; omega
  have h2 : ((n : Int) != (ks.length : Int)) = true := by rw [bne_iff_ne]; omega
  clear call hl h1
  go_enter Try.func47, Try.ntmps47
  go_wp2_with (go_at_call 60; refine Calls.mono (call'.out _) ?_; rintro e w1 ⟨hb1, g1, n1, rfl, -, -⟩)
  go_ret2
  exact ⟨hb1, rfl⟩

set_option maxRecDepth 100000 in
set_option maxHeartbeats 2000000 in
theorem makeForm_any (k : Nat) (H : Hid (MP k)) (a0 : ByteArray) (ts : List T) (g c : Nat) (w : World) (D : Nat → Prop) (hp : Parts w D g 2 ts) (hD : ∀ g, D g → g < w.heap.size) (hgw : g < w.heap.size) (hk : ∀ t ∈ ts, t.sz ≤ k)
    (x : T) (hx : atomOf x = a0.toList) (hm : isMu (atomOf x) = false) {k1 : K} {d : Bs} {ks : List K} (hs : shapeL a0.toList = some (k1, d, ks)) (hl : ts.length = ks.length) :
    Calls Try.prog 47 #[.string a0, .slice (some ⟨g, 2, none⟩) ks.length c] w (MPost (toP (.node (x :: ts))) w) := by
  have call := fun W => shapeOf_any a0 W
  unfold ShPost at call
  rw [hs] at call
  have call' := Lib.hid call
  have hf := field_parts
  have h1 : ks.length ≠ 0 ∧ ks.length ≤ 2 := by rcases shape_some hs with ⟨l, rfl, -⟩ | ⟨l, m, rfl, -⟩ <;> simp
  obtain ⟨h1, h3⟩ := h1
  have h0 : ((ks.length : Int) == 0) = false := by rw [beq_eq_false_iff_ne]; omega
  have h2 : ((ks.length : Int) != (ks.length : Int)) = false := by simp
  rw [← hx] at hs
  have hD' := Lib.hid hD
  have hp' := Lib.hid hp
  have hk' := Lib.hid hk
  have bad := Lib.hid (fun i t l ht hk hb => toP_part (x := x) hm hs hl (i := i) (t := t) (l := l) ht hk hb)
  have good := Lib.hid (fun qs hq hk => toP_form (x := x) hm hs hl (qs := qs) hq hk)
  have hl' := Lib.hid hl
  clear call hD hp hk hs hl
  obtain ⟨i0, hi0, hz0, hz1, hz2⟩ := info_parts infoProgram
  go_enter Try.func47, Try.ntmps47
  go_wp2_with fail
  refine Calls.mono (call'.out _) ?_
  rintro e w1 ⟨hb1, g1, n1, rfl, hg1, hkc⟩
  have hb1' := Lib.hid hb1
  have hkc' := Lib.hid hkc
  have hg1l := hg1.2
  clear hb1 hkc hg1
  go_wp2_with fail
  go_loopw [7, 27] (fun v i wr => ∃ (j : Nat) (qs : List P) (A1 : Option Addr) (c1 : Nat) (xs : List Value), j ≤ ks.length ∧ i = .int .i64 j ∧ v = .slice A1 j c1 ∧ qs.length = j ∧ (ts.take j).map toP = qs.map some ∧ qs.map P.kind = ks.take j ∧
      wr.ownsRow w1.heap.size 37 1 (.slice A1 j c1) j xs ∧ PRow wr (fun g => New w.heap.size wr g ∧ (Value.slice A1 j c1).ownBlock ≠ some g) qs xs ∧ Below w1.heap.size w1 wr)
    (fun _ i _ => ks.length - (intOf i).toNat)
  case atStart => exact ⟨0, [], none, 0, [], Nat.zero_le _, rfl, rfl, rfl, rfl, rfl, World.ownsRow_nil _ _ _ _, rfl, Below.refl _ _⟩
  case round =>
    obtain ⟨j, qs, A1, c1, xs, hj, rfl, rfl, hql, hqs, hkq, own1, kids1, hb2⟩ := hrel
    have hbelw := below_step hb1'.out (Nat.le_refl _) hb2
    by_cases hlt : j < ks.length
    · obtain ⟨t, ht⟩ : ∃ t, ts[j]? = some t := ⟨ts[j]'(by rw [hl'.out]; exact hlt), List.getElem?_eq_getElem _⟩
      obtain ⟨l, hlk⟩ : ∃ l, ks[j]? = some l := ⟨ks[j], List.getElem?_eq_getElem _⟩
      obtain ⟨a1, p1, n2, c2, x0, x1, t1⟩ := hp'.out j t ht
      have y0 := (hbelw.cell (p := ⟨g, 2 + j * 2, none⟩) hgw).trans x0
      have y1 := (hbelw.cell (p := ⟨g, 2 + j * 2 + 1, none⟩) hgw).trans x1
      have y2 := (hb2.cell (p := ⟨g1, j, none⟩) hg1l).trans (hkc'.out j l hlk)
      have hgr : g < wr.heap.size := Nat.lt_of_lt_of_le hgw hbelw.size
      have hg1r : g1 < wr.heap.size := Nat.lt_of_lt_of_le hg1l hb2.size
      have htk := hk'.out t (List.mem_of_getElem? ht)
      have htB := Lib.hid (fun W (hW : Below w.heap.size w W) => t1.below hW hD'.out)
      have hbelw' := Lib.hid hbelw
      have hb2' := Lib.hid hb2
      have own1' := Lib.hid own1
      have kids1' := Lib.hid kids1
      have hs1 := hb1'.out.size
      have hs2 := hb2.size
      have y2' := Lib.hid y2
      clear x0 x1 t1 hbelw hb2 own1 kids1 y2
      cases hP : toP t with
      | none =>
        have hno := Lib.hid (fun (w' : World) hb => (show MPost (toP (.node (x :: ts))) w (.returned (.tuple #[.nilIface, .bool false])) w' from by
          rw [bad.out j t l ht hlk (fun p hp => by rw [hP] at hp; cases hp)]; exact ⟨hb, rfl⟩))
        have hP' := Lib.hid hP
        clear hP
        go_wp2_with fail
        refine Calls.mono (MP.not H.out hP'.out _ htk (htB.out _ (bb_alloc hbelw'.out _)) (fun g hg => by have := hD'.out g hg; simp; omega)) ?_
        rintro e w2 ⟨rfl, hb3⟩
        go_wp2_with fail
        go_quiet (fail)
        go_wp2_with fail
        go_ret2
        exact hno.out _ (Below.drewN (below_step (bb_alloc hbelw'.out _) (by have := hbelw'.out.size; simp) hb3) _)
      | some q =>
        have hP' := Lib.hid hP
        have hok := Lib.hid (toP_ok hP)
        cases hK : decide (q.kind = l)
        · have hno := Lib.hid (fun (w' : World) hb => (show MPost (toP (.node (x :: ts))) w (.returned (.tuple #[.nilIface, .bool false])) w' from by
            rw [bad.out j t l ht hlk (fun p hp => by rw [hP] at hp; injection hp with hp; subst hp; exact of_decide_eq_false hK)]; exact ⟨hb, rfl⟩))
          have hne : (q.kind.name == l.name) = false := by
            have h := of_decide_eq_false hK
            revert h; cases q.kind <;> cases l <;> decide
          clear hP
          go_wp2_with fail
          refine Calls.mono (MP.yes H.out hP'.out _ htk (htB.out _ (bb_alloc hbelw'.out _)) (fun g hg => by have := hD'.out g hg; simp; omega)) ?_
          rintro e w2 ⟨y, rfl, hb3, hy⟩
          have mq := fun w => kind_m hy w
          have cq := fun x w => kind_c q x w
          have y3 := (hb3.cell (p := ⟨g1, j, none⟩) (by simp; omega)).trans ((World.cell?_alloc_lt _ _ _ (by exact hg1r)).trans y2'.out)
          have hsz2 := hb3.size
          simp at hsz2
          have hy' := Lib.hid hy
          have hb3' := Lib.hid (below_step (bb_alloc hbelw'.out _) (by have := hbelw'.out.size; simp) hb3)
          clear hy hb3
          have hS : Hid (∀ W', Below w2.heap.size w2 W' → W'.cell? ⟨g1, j, none⟩ = some (str l.name)) := fun W' h => (h.cell (p := ⟨g1, j, none⟩) (by show g1 < _; omega)).trans y3
          have hcall : Hid (∀ W, Below w2.heap.size w2 W → Calls Try.prog (kindFn q) #[y] W fun e w' => e = .returned (str q.kind.name) ∧ Below W.heap.size W w') :=
            fun W hW => kind_any hok.out W _ _ (hy'.out.below hW (fun g hg => hg.2))
          clear y3
          go_wp2_with fail
          go_region_held3 (fun w' => w'.cell? ⟨g1, j, none⟩ = some (str l.name))
            (first | exact hS.out _ (Below.refl _ _).drew | exact hS.out _ (below_step (Below.refl _ _).drew (by simp) hb4))
            (first | (refine Calls.mono (hcall.out _ (Below.refl _ _).drew) ?_; rintro e w4 ⟨rfl, hb4⟩))
          all_goals
            go_wp2_with fail
            go_ret2
            exact hno.out _ (below_step hb3'.out (Nat.le_refl _) (below_step (Below.refl _ _).drew (by simp) hb4))
        · obtain rfl : q.kind = l := of_decide_eq_true hK
          have hne : (q.kind.name == q.kind.name) = true := by simp
          clear hP
          go_wp2_with fail
          refine Calls.mono (MP.yes H.out hP'.out _ htk (htB.out _ (bb_alloc hbelw'.out _)) (fun g hg => by have := hD'.out g hg; simp; omega)) ?_
          rintro e w2 ⟨y, rfl, hb3, hy⟩
          have mq := fun w => kind_m hy w
          have cq := fun x w => kind_c q x w
          have y3 := (hb3.cell (p := ⟨g1, j, none⟩) (by simp; omega)).trans ((World.cell?_alloc_lt _ _ _ (by exact hg1r)).trans y2'.out)
          have hsz2 := hb3.size
          simp at hsz2
          have hy' := Lib.hid hy
          have hwr3 := Lib.hid (below_step (show Below wr.heap.size wr (wr.alloc _) from (Below.refl _ _).alloc (Nat.le_refl _) _) (by simp) hb3)
          have hb3' := Lib.hid (below_step (bb_alloc hbelw'.out _) (by have := hbelw'.out.size; simp) hb3)
          clear hy hb3
          have hS : Hid (∀ W', Below w2.heap.size w2 W' → W'.cell? ⟨g1, j, none⟩ = some (str q.kind.name)) := fun W' h => (h.cell (p := ⟨g1, j, none⟩) (by show g1 < _; omega)).trans y3
          have hcall : Hid (∀ W, Below w2.heap.size w2 W → Calls Try.prog (kindFn q) #[y] W fun e w' => e = .returned (str q.kind.name) ∧ Below W.heap.size W w') :=
            fun W hW => kind_any hok.out W _ _ (hy'.out.below hW (fun g hg => hg.2))
          clear y3
          go_wp2_with fail
          go_region_held3 (fun w' => w'.cell? ⟨g1, j, none⟩ = some (str q.kind.name))
            (first | exact hS.out _ (Below.refl _ _).drew | exact hS.out _ (below_step (Below.refl _ _).drew (by simp) hb4))
            (first | (refine Calls.mono (hcall.out _ (Below.refl _ _).drew) ?_; rintro e w4 ⟨rfl, hb4⟩))
          all_goals
            have hb4' : Hid (Below w2.heap.size w2 w4) := Lib.hid (below_step (Below.refl _ _).drew (by simp) hb4)
            have hW4 := Lib.hid (below_step hb3'.out (Nat.le_refl _) hb4'.out)
            have hy4 := Lib.hid ((hy'.out.below hb4'.out (fun g hg => hg.2)).to (D' := New wr.heap.size w4) (fun g hg => ⟨by have := hg.1; simp at this; omega, Nat.lt_of_lt_of_le hg.2 hb4'.out.size⟩))
            have hwr4 := Lib.hid (below_step hwr3.out (Nat.le_refl _) hb4'.out)
            have own4 := Lib.hid (own_below own1'.out hwr4.out)
            clear hb4
            go_wp2_with (at_builtin; go_loud (refine wpList_append_lies _ rfl (.tmp 48) (.tmp 50) 104 rfl w1.heap.size 37 i0 _ 1 16 Try.underlying104 hi0 hz0 hz1 hz2 rfl (by decide) _ _ _ rfl (own4.out.alloc _) ⟨w4.heap.size, 0, none⟩ 1 1 [.iface (pt q) y] rfl rfl ?c1 ?c2 (by decide) ?c3 ?c4 ?c5 _ rfl ?_))
            case c1 => exact World.news_of_block (cs := #[.iface (pt q) y]) (heap_alloc_new _ _)
            case c2 => intro u hu; simp at hu; rw [hu]; rfl
            case c3 => unfold maxLen; omega
            case c4 => omega
            case c5 => have := hb2'.out.size; have := hwr4.out.size; simp; omega
            intro g2 cap w5 own5 gr5 hat hlt5
            have hrow := Lib.hid (prow_step (m := j + 1) (cap := cap) (by have := hbelw'.out.size; omega) own1'.out kids1'.out hwr4.out hy4.out ((Below.refl _ _).alloc (Nat.le_refl _) (.cells #[.iface (pt q) y] 37)) gr5 (g := g2) (by rcases hat with h | h; exact .inl h; exact .inr (by rw [h]; simp)))
            have hb5 : Hid (Below w1.heap.size w1 w5) := Lib.hid ((bb_alloc (below_step hb2'.out (Nat.le_refl _) hwr4.out) _).grown gr5 (by have := hb2'.out.size; have := hwr4.out.size; simp; omega) (fun k hk => (own4.out.lt k hk).1))
            have own5' := Lib.hid own5
            clear own5 gr5 hat
            go_wp2_with fail
            go_roundw
            case rel =>
              refine ⟨j + 1, qs ++ [q], some ⟨g2, 0, none⟩, cap, xs ++ [.iface (pt q) y], by omega, by go_num, rfl, by simp [hql], ?_, ?_, own5'.out, hrow.out, hb5.out⟩
              · rw [List.take_add_one, ht, List.map_append, hqs, List.map_append]; simp [hP'.out]
              · rw [List.take_add_one, hlk, List.map_append, hkq]; simp
            case measure => simp [intOf]; omega
    · have e : j = ks.length := by omega
      subst e
      have hfin : Hid (MPost (toP (.node (x :: ts))) w (.returned (.tuple #[.iface 106 (.agg #[.string a0, .slice A1 ks.length c1]), .bool true])) wr) := by
        rw [List.take_of_length_le (by rw [hl'.out]; omega)] at hqs
        rw [List.take_of_length_le (Nat.le_refl _)] at hkq
        obtain ⟨p, hp, hform⟩ := good.out qs hqs hkq
        rw [hp]
        obtain ⟨g2, cap, hv, hown, hlt2⟩ := own1.form (by omega)
        have hA : A1 = some ⟨g2, 0, none⟩ := by injection hv
        have hcap : c1 = cap := by injection hv
        subst hA
        obtain ⟨hpi, hpt⟩ := PI.ofForm (w := wr) (D := New w.heap.size wr) (n := c1) hform (g := g2) ⟨by have := own1.lt g2 rfl; have := hb1'.out.size; omega, hlt2⟩ (fun i q hi => by
          obtain ⟨y, h1, h2⟩ := kids1.at_ hi
          have h3 := own1.cells (g := g2) rfl i _ h1
          have e : ({ block := g2, off := 0, spot := none } : Addr).add i = ⟨g2, i, none⟩ := by unfold Addr.add; split <;> simp_all
          rw [e] at h3
          exact ⟨y, h3, h2.to (fun g hg => hg.1)⟩)
        refine ⟨hbelw, .agg #[str (atomOf x), .slice (some ⟨g2, 0, none⟩) qs.length c1], ?_, hpi⟩
        rw [hpt, hql, hx, str, show (⟨a0.toList.toArray⟩ : ByteArray) = a0 from by rw [Lib.toList_data]]
      clear own1 kids1 hb2 hbelw hqs hkq hql
      go_wp2_with fail
      go_ret2
      exact hfin.out

end Go.Proofs.Ytagafoldkfgikaa
