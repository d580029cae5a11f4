/- The method 'dual' of forms. -/
import Derived.Test.YtcdagenocmmidaaDualM
namespace Go.Proofs.Ytcdagenocmmidaa
set_option linter.unusedVariables false
open Go.RowKit

theorem grown_refl (a : World) (row : Option Nat) : a.grownBy a row := ⟨rfl, rfl, rfl, Nat.le_refl _, fun _ _ _ => rfl⟩
theorem below_alloc {B : Nat} {w0 W : World} (h : Below B w0 W) (hB : B ≤ w0.heap.size) (o : Obj) : Below B w0 (W.alloc o) := h.alloc (Nat.le_trans hB h.size) o
set_option maxRecDepth 100000 in
set_option maxHeartbeats 2000000 in
theorem dualP_form (p : P) (h : Bs) (ks : List P) (hf : IsForm p h ks) {k : K} {kinds : List K} (hs : shapeL h = some (k, dword h, kinds)) (hk : ∀ q ∈ ks, Hid (DUP q)) (hks2 : k = .s → ks.length = 2)
    (hfd : IsForm p.dual (dword h) (if k = .s then (ks.map P.dual).reverse else ks.map P.dual)) (w : World) (D : Nat → Prop) (x : Value) (hx : PI w D p x) (hD : ∀ g, D g → g < w.heap.size) :
    Calls Try.prog 153 #[x] w fun e w' => ∃ y, e = .returned (.iface (pt p.dual) y) ∧ PI w' (New w.heap.size w') p.dual y ∧ Below w.heap.size w w' := by
  obtain ⟨g, n, rfl, hg, hc⟩ := hx.form hf
  obtain ⟨i0, hi0, hz0, hz1, hz2⟩ := info_parts infoProgram
  have hgw := hD g hg
  have hks := hf.len
  have hk' := Lib.hid hk
  have hD' := Lib.hid hD
  have hc' := Lib.hid hc
  have hfd' := Lib.hid hfd
  have hs' := Lib.hid hs
  clear hk hD hc hx hfd hs
  go_enter Try.func153, Try.ntmps153
  go_wp2_with fail
  have hb0 : Below (w.heap.size + 1) (w.alloc (.cells #[str h, .slice (some ⟨g, 0, none⟩) ks.length n] 129)) (w.alloc (.cells #[str h, .slice (some ⟨g, 0, none⟩) ks.length n] 129)) := Below.refl _ _
  generalize hw0 : w.alloc (.cells #[str h, .slice (some ⟨g, 0, none⟩) ks.length n] 129) = w0 at *
  have hbw0 : Below w.heap.size w w0 := by rw [← hw0]; exact (Below.refl _ _).alloc (Nat.le_refl _) _
  have hbox0 := Lib.hid (show w0.heap[w.heap.size]? = some (.cells #[str h, .slice (some ⟨g, 0, none⟩) ks.length n] 129 (0, 0)) from by rw [← hw0]; exact heap_alloc_new _ _)
  have hsz0 : w0.heap.size = w.heap.size + 1 := by rw [← hw0]; simp
  have hbw0' := Lib.hid hbw0
  clear hw0 hbw0
  go_loopw [3, 9] (fun v i wr => ∃ (j : Nat) (A1 : Option Addr) (c1 : Nat) (xs : List Value), j ≤ ks.length ∧ i = .int .i64 j ∧ v = .slice A1 j c1 ∧
      wr.ownsRow (w.heap.size + 1) 43 1 (.slice A1 j c1) j xs ∧ PRow wr (fun g => New (w.heap.size + 1) wr g ∧ (Value.slice A1 j c1).ownBlock ≠ some g) ((ks.take j).map P.dual) xs ∧ Below (w.heap.size + 1) w0 wr)
    (fun _ i _ => ks.length - (intOf i).toNat)
  case atStart => exact ⟨0, none, 0, [], Nat.zero_le _, rfl, rfl, World.ownsRow_nil _ _ _ _, rfl, hb0⟩
  case round =>
    obtain ⟨j, A1, c1, xs, hj, rfl, rfl, own1, kids1, hb2⟩ := hrel
    have hs2 := hb2.size
    have hbw : Below w.heap.size w wr := below_step hbw0'.out (Nat.le_refl _) (by rw [hsz0]; exact hb2)
    by_cases hlt : j < ks.length
    · obtain ⟨q, hq⟩ : ∃ q, ks[j]? = some q := ⟨ks[j], List.getElem?_eq_getElem _⟩
      obtain ⟨y, hy, hpi⟩ := hc'.out j q hq
      have hy1 := (hbw.cell (p := ⟨g, j, none⟩) hgw).trans hy
      have hDU := hk'.out q (List.mem_of_getElem? hq)
      have mq := fun w => dual_m hpi w
      have cq := fun x w => dual_c q x w
      have hpi' := Lib.hid hpi
      have hq' := Lib.hid hq
      have hbw' := Lib.hid hbw
      have hb2' := Lib.hid hb2
      have own1' := Lib.hid own1
      have kids1' := Lib.hid kids1
      clear hy hpi hq hbw hb2 own1 kids1
      go_wp2_with fail
      refine Calls.mono (hDU.out _ D _ (hpi'.out.below hbw'.out hD'.out) (fun g hg => by have := hD'.out g hg; have := hbw'.out.size; omega)) ?_
      rintro e w4 ⟨z, rfl, hz, hb4⟩
      have hz' := Lib.hid hz
      have hb4' := Lib.hid hb4
      have own4 := Lib.hid (own_below own1'.out hb4)
      have hs4 := hb4.size
      clear hz hb4
      go_wp2_with (at_builtin; go_loud (refine wpList_append_lies _ rfl (.tmp 13) (.tmp 16) 127 rfl (w.heap.size + 1) 43 i0 _ 1 16 Try.underlying127 hi0 hz0 hz1 hz2 rfl (by decide) _ _ _ rfl (own4.out.alloc _) ⟨w4.heap.size, 0, none⟩ 1 1 [.iface (pt q.dual) z] rfl rfl ?c1 ?c2 (by decide) ?c3 ?c4 ?c5 _ rfl ?_))
      case c1 => exact World.news_of_block (cs := #[.iface (pt q.dual) z]) (heap_alloc_new _ _)
      case c2 => intro u hu; simp at hu; rw [hu]; rfl
      case c3 => unfold maxLen; omega
      case c4 => omega
      case c5 => simp; omega
      intro g2 cap w5 own5 gr5 hat hlt5
      have hrow := Lib.hid (prow_step (m := j + 1) (cap := cap) (show w.heap.size + 1 ≤ wr.heap.size by omega) own1'.out kids1'.out hb4'.out hz'.out ((Below.refl _ _).alloc (Nat.le_refl _) (.cells #[.iface (pt q.dual) z] 43)) gr5 (g := g2) (by rcases hat with h | h; exact .inl h; exact .inr (by rw [h]; simp)))
      have hb5 : Hid (Below (w.heap.size + 1) w0 w5) := Lib.hid ((below_alloc (below_step hb2'.out (by omega) hb4'.out) (by omega) _).grown gr5 (by simp; omega) (fun k hk => (own4.out.lt k hk).1))
      have hpref := Lib.hid (show (ks.take (j + 1)).map P.dual = (ks.take j).map P.dual ++ [q.dual] from by rw [List.take_add_one, hq'.out, List.map_append]; rfl)
      have own5' := Lib.hid own5
      clear own5 gr5 hat
      go_wp2_with fail
      go_roundw
      case rel => exact ⟨j + 1, some ⟨g2, 0, none⟩, cap, xs ++ [.iface (pt q.dual) z], by omega, by go_num, rfl, own5'.out, by rw [hpref.out]; exact hrow.out, hb5.out⟩
      case measure => simp [intOf]; omega
    · have e : j = ks.length := by omega
      subst e
      rw [List.take_of_length_le (Nat.le_refl _)] at kids1
      obtain ⟨g2, cap, hv, hown, hlt2⟩ := own1.form (by omega)
      have hA : A1 = some ⟨g2, 0, none⟩ := by injection hv
      obtain rfl : c1 = cap := by injection hv
      subst hA
      have hg2 := (own1.lt g2 rfl).1
      have hcells : ∀ (i : Nat) (q : P), (ks.map P.dual)[i]? = some q → ∃ y, wr.cell? ⟨g2, i, none⟩ = some (.iface (pt q) y) ∧ PI wr (fun g => New (w.heap.size + 1) wr g ∧ g ≠ g2) q y := fun i q hi => by
        obtain ⟨y, h1, h2⟩ := kids1.at_ hi
        have h3 := own1.cells (g := g2) rfl i _ h1
        have e : ({ block := g2, off := 0, spot := none } : Addr).add i = ⟨g2, i, none⟩ := by unfold Addr.add; split <;> simp_all
        rw [e] at h3
        exact ⟨y, h3, h2.to (fun g hg => ⟨hg.1, fun e => hg.2 (by rw [e]; rfl)⟩)⟩
      have hfroz : ∀ i, wr.frozen? ⟨g2, i, none⟩ = false := fun i => by
        rcases own1.2 with ⟨e, _⟩ | ⟨g, cap, cur, e, _, hh, _⟩
        · cases e
        · injection e with e1; injection e1 with e1; injection e1 with e1
          subst e1
          simp [World.frozen?, hh]
      have fin : ∀ (rs : List P) (wf : World), IsForm p.dual (dword h) rs → rs.length = ks.length → Below w.heap.size w wf → wr.heap.size ≤ wf.heap.size → (∀ (i : Nat) (q : P), rs[i]? = some q → ∃ y, wf.cell? ⟨g2, i, none⟩ = some (.iface (pt q) y) ∧ PI wf (New w.heap.size wf) q y) →
          ∃ y, Ending.returned (.iface 129 (.agg #[str (dword h), .slice (some ⟨g2, 0, none⟩) ks.length c1])) = .returned (.iface (pt p.dual) y) ∧ PI wf (New w.heap.size wf) p.dual y ∧ Below w.heap.size w wf := fun rs wf hf1 hl hbf hsz hc1 => by
        obtain ⟨hpi, hpt⟩ := PI.ofForm (w := wf) (D := New w.heap.size wf) (n := c1) hf1 (g := g2) ⟨by omega, by omega⟩ hc1
        rw [hl] at hpi
        exact ⟨_, by rw [hpt], hpi, hbf⟩
      obtain ⟨z0, r0, r1, -, -⟩ := two_cells ((hb2.block w.heap.size (by omega)).trans hbox0.out)
      have hkc := Lib.hid (fun S W => form_kind h S k (dword h) kinds hs'.out W)
      have hsh := Lib.hid (fun W => shapeOf_any ⟨h.toArray⟩ W)
      rw [Lib.toList_data] at hsh
      rw [show (⟨h.toArray⟩ : ByteArray).data.toList = h from rfl] at hsh
      have hfin := Lib.hid fin
      have hcells' := Lib.hid hcells
      have hfroz' := Lib.hid hfroz
      have hbw' := Lib.hid hbw
      have fdual := field_dual
      clear fin hcells hfroz kids1 own1 hb2 hbw hown hv hb0
      by_cases hkS : k = .s
      · subst hkS
        have hfd2 := hfd'.out
        rw [if_pos rfl] at hfd2
        have hfd3 := Lib.hid hfd2
        have hl2 := hks2 rfl
        obtain ⟨p1, p2, hkk⟩ : ∃ p1 p2, ks = [p1, p2] := by
          match ks, hl2 with
          | [p1, p2], _ => exact ⟨p1, p2, rfl⟩
        subst hkk
        obtain ⟨y1, c1', d1⟩ := hcells'.out 0 p1.dual rfl
        obtain ⟨y2, c2', d2⟩ := hcells'.out 1 p2.dual rfl
        have d1' := Lib.hid d1
        have d2' := Lib.hid d2
        rw [show K.s.name = [115, 116, 97, 116, 101, 109, 101, 110, 116] from rfl] at hkc
        clear hfd2 d1 d2
        go_wp2_with fail
        refine Calls.mono (hkc.out _ _) ?_
        rintro e w5 ⟨rfl, hb5⟩
        have hb5' := Lib.hid hb5
        have q0 := (hb5.cell (p := ⟨w.heap.size, 0, none⟩) z0).trans r0
        have q1 := (hb5.cell (p := ⟨w.heap.size, 1, none⟩) z0).trans r1
        have z5 : w.heap.size < w5.heap.size := Nat.lt_of_lt_of_le z0 hb5.size
        have htwo : Two w5 g2 (.iface (pt p1.dual) y1) (.iface (pt p2.dual) y2) w5 := ⟨(hb5.cell (p := ⟨g2, 0, none⟩) hlt2).trans c1', (hb5.cell (p := ⟨g2, 1, none⟩) hlt2).trans c2', (World.frozen?_of_block (a := ⟨g2, 0, none⟩) (hb5.block g2 hlt2)).trans (hfroz'.out 0), (World.frozen?_of_block (a := ⟨g2, 1, none⟩) (hb5.block g2 hlt2)).trans (hfroz'.out 1), Nat.lt_of_lt_of_le hlt2 hb5.size, grown_refl _ _⟩
        have hrev := Lib.hid (reverse2_any g2 c1 _ _ y1 y2 w5 htwo)
        clear hb5 htwo
        go_wp2_with fail
        refine Calls.mono hrev.out ?_
        rintro e w6 ⟨⟨r6, rfl⟩, htwo6⟩
        have hsz6 := htwo6.grown.size
        have s0 := (World.cell?_of_block (a := ⟨w.heap.size, 0, none⟩) (htwo6.grown.block w.heap.size z5 (by simp; omega))).trans q0
        have s1 := (World.cell?_of_block (a := ⟨w.heap.size, 1, none⟩) (htwo6.grown.block w.heap.size z5 (by simp; omega))).trans q1
        have z6 : w.heap.size < w6.heap.size := Nat.lt_of_lt_of_le z5 hsz6
        have htwo6' := Lib.hid htwo6
        clear htwo6
        go_wp2_with fail
        refine Calls.mono (hsh.out _) ?_
        intro e w7 hsp
        unfold ShPost at hsp
        rw [hs'.out] at hsp
        obtain ⟨hb7, g7, n7, rfl, -, -⟩ := hsp
        have hb7' := Lib.hid hb7
        clear hb7
        have hg6 : g2 < w6.heap.size := htwo6'.out.lt
        have hb56 : Hid (Below w.heap.size w w6) := Lib.hid ((below_step hbw'.out (Nat.le_refl _) hb5'.out).grown htwo6'.out.grown (by have := hb5'.out.size; omega) (fun k hk => by injection hk with hk; omega))
        go_wp2_with fail
        go_ret
        exact hfin.out _ w7 hfd3.out (by simp) (below_step hb56.out (Nat.le_refl _) hb7'.out) (by have := hb7'.out.size; have := hb5'.out.size; omega) (fun i q hi => by
          have hkeep : ∀ (q : P) (y : Value), PI wr (fun g => New (w.heap.size + 1) wr g ∧ g ≠ g2) q y → PI w7 (New w.heap.size w7) q y := fun q y hq => by
            refine PI.keep (fun g hg => ?_) (fun g hg => ?_) _ _ hq
            · have h1 := hg.1.2
              have h5 := hb5'.out.size
              rw [hb7'.out.block g (by omega), htwo6'.out.grown.block g (by omega) (by simp; exact hg.2), hb5'.out.block g h1]
            · exact ⟨by have := hg.1.1; omega, by have := hg.1.2; have := hb5'.out.size; have := hb7'.out.size; omega⟩
          match i, hi with
          | 0, hi => simp at hi; subst hi; exact ⟨y2, (hb7'.out.cell (p := ⟨g2, 0, none⟩) hg6).trans htwo6'.out.c0, hkeep _ _ d2'.out⟩
          | 1, hi => simp at hi; subst hi; exact ⟨y1, (hb7'.out.cell (p := ⟨g2, 1, none⟩) hg6).trans htwo6'.out.c1, hkeep _ _ d1'.out⟩
          | i + 2, hi => simp at hi)
      · have hfd2 := hfd'.out
        rw [if_neg hkS] at hfd2
        have hfd3 := Lib.hid hfd2
        have hkn : (k.name == [115, 116, 97, 116, 101, 109, 101, 110, 116]) = false := by cases k <;> first | rfl | exact absurd rfl hkS
        clear hfd2 hkS
        go_wp2_with fail
        refine Calls.mono (hkc.out _ _) ?_
        rintro e w5 ⟨rfl, hb5⟩
        have hb5' := Lib.hid hb5
        have q0 := (hb5.cell (p := ⟨w.heap.size, 0, none⟩) z0).trans r0
        have q1 := (hb5.cell (p := ⟨w.heap.size, 1, none⟩) z0).trans r1
        have z5 : w.heap.size < w5.heap.size := Nat.lt_of_lt_of_le z0 hb5.size
        clear hb5
        go_wp2_with fail
        refine Calls.mono (hsh.out _) ?_
        intro e w6 hsp
        unfold ShPost at hsp
        rw [hs'.out] at hsp
        obtain ⟨hb6, g6, n6, rfl, -, -⟩ := hsp
        have hb6' := Lib.hid (below_step hb5'.out (Nat.le_refl _) hb6)
        clear hb6
        go_wp2_with fail
        go_ret
        exact hfin.out _ w6 hfd3.out (by simp) (below_step hbw'.out (Nat.le_refl _) hb6'.out) hb6'.out.size (fun i q hi => by
          obtain ⟨y, h1, h2⟩ := hcells'.out i q hi
          refine ⟨y, (hb6'.out.cell (p := ⟨g2, i, none⟩) hlt2).trans h1, (h2.below hb6'.out (fun g hg => hg.1.2)).to (fun g hg => ⟨by have := hg.1.1; omega, Nat.lt_of_lt_of_le hg.1.2 hb6'.out.size⟩)⟩)

theorem dualP_any : ∀ {p : P}, p.ok = true → DUP p
  | .nm s, hk => by rw [P.ok] at hk; exact dualP_nm s hk
  | .f1 h p, hk => fun w D x hx hD => by
    rw [P.ok, Bool.and_eq_true, decide_eq_true_iff] at hk
    have H := dualP_any hk.1
    have hne : (P.f1 h p).kind ≠ .s := by
      intro e; rw [e] at hk
      have h2 := hk.2
      unfold hd1 at h2
      repeat' split at h2
      all_goals cases h2
    exact dualP_form (.f1 h p) h [p] ⟨rfl, rfl⟩ (shape_hd1 hk.2) (fun q hq => by simp at hq; subst hq; exact H) (fun e => absurd e hne) (by rw [if_neg hne]; exact ⟨rfl, rfl⟩) w D x hx hD
  | .f2 h p q, hk => fun w D x hx hD => by
    rw [P.ok, Bool.and_eq_true, Bool.and_eq_true, decide_eq_true_iff] at hk
    have H := dualP_any hk.1.1
    have H' := dualP_any hk.1.2
    refine dualP_form (.f2 h p q) h [p, q] ⟨rfl, rfl⟩ (shape_hd2 hk.2) (fun r hr => by simp at hr; rcases hr with rfl | rfl; exact H; exact H') (fun _ => rfl) ?_ w D x hx hD
    by_cases hc : h = cutB
    · subst hc
      rw [(cut_hd2 hk.2).1, if_pos rfl, P.dual, if_pos rfl]
      exact ⟨by decide, rfl⟩
    · have hne : (P.f2 h p q).kind ≠ .s := by
        intro e; rw [e] at hk
        have h2 := hk.2
        unfold hd2 at h2
        repeat' split at h2
        all_goals first | (rename_i hh; exact hc hh) | cases h2
      rw [if_neg hne, P.dual, if_neg hc]
      exact ⟨rfl, rfl⟩
  | .bd s b, hk => by
    rw [P.ok, Bool.and_eq_true, Bool.and_eq_true] at hk
    exact dualP_bd s b hk.1.1 (dualP_any hk.1.2)

end Go.Proofs.Ytcdagenocmmidaa
