/- impl.readTyping. -/
import Derived.Test.YtdbdcfijeeelkaaMathY
import Derived.Test.YtdbdcfijeeelkaaTyArg
import Derived.Test.YtdbdcfijeeelkaaRowNm
import Derived.Test.YtdbdcfijeeelkaaNames
namespace Go.Proofs.Ytdbdcfijeeelkaa
set_option linter.unusedVariables false
open Go.RowKit

/-- The slice (A, n) reads as the names l, in blocks from lo on. -/
def RowNL (lo : Nat) (w : World) (A : Option Addr) (n : Nat) (l : List Bs) : Prop := RowN w A n l ∧ ∀ b o, 0 < n → A = some ⟨b, o, none⟩ → lo ≤ b

/-- A typing that was read, in memory. -/
def TyIn (w : World) (lo : Nat) (y : Ty) (A : Option Addr) (n c : Nat) (B : Option Addr) (m d : Nat) : Prop :=
  RowN w A n y.ns ∧ RowF lo w B m y.fs

theorem RowF.turn {lo lo2 hi : Nat} {w w' : World} {A : Option Addr} {n : Nat} {fs : List F} (h : RowF lo w A n fs) (ht : Turn lo2 hi w w') (hd : hi ≤ lo) : RowF lo w' A n fs := by
  refine ⟨h.1, fun hn => ?_⟩
  obtain ⟨b, o, e, hlt, hc⟩ := h.2 hn
  exact ⟨b, o, e, ⟨hlt.1, Nat.lt_of_lt_of_le hlt.2 ht.size⟩, fun i s hi => (World.cell?_of_block (a := ⟨b, o + i, none⟩) (ht.block b hlt.2 (by omega))).trans (hc i s hi)⟩
theorem set_second3 {w : World} {b : Nat} {x y z u : Value} {E : TypeId} (h : w.heap[b]? = some (.cells #[x, y, z] E (0, 0))) : (w.setCell ⟨b, 1, none⟩ u).heap[b]? = some (.cells #[x, u, z] E (0, 0)) := by
  simp [World.setCell, Array.getElem?_modify, h]

def RtPost (o : Option Ty) (w : World) (e : Ending) (w' : World) : Prop :=
  Below w.heap.size w w' ∧ ∃ A n c B m d wh, e = .returned (.tuple #[.agg #[.slice A n c, .slice B m d, fvO wh], .bool o.isSome]) ∧ ∀ y, o = some y → TyIn w' w.heap.size y A n c B m d ∧ y.wh = wh

set_option maxRecDepth 100000 in
theorem readTyping_any (A : Option Addr) (n c : Nat) (ss : List ByteArray) (B : Option Addr) (m d : Nat) (ts : List ByteArray) (s : ByteArray) (w : World)
    (hA : RowS w A n ss) (hB : RowS w B m ts) (hn : n ≤ 10000000) (hm : m ≤ 10000000) :
    Calls Try.prog 21 #[tyV A n c B m d s] w (RtPost (readTy ss ts s) w) := by
  obtain ⟨i0, hi0, hz0, hz1, hz2⟩ := info_parts infoName
  have hlA := Lib.hid hA.1
  have hlB := Lib.hid hB.1
  have hA' := Lib.hid (fun W (hW : Below w.heap.size w W) => hA.below hW)
  have hB' := Lib.hid (fun W (hW : Below w.heap.size w W) => hB.below hW)
  have hno : Hid (readTy ss ts s = none → ∀ w', Below w.heap.size w w' → RtPost (readTy ss ts s) w (.returned (.tuple #[.agg #[.slice none 0 0, .slice none 0 0, .nilIface], .bool false])) w') := Lib.hid fun h w' hb => by
    rw [h]; exact ⟨hb, _, _, _, _, _, _, none, rfl, fun _ h => by cases h⟩
  clear hA hB
  by_cases hnm : n = m
  · subst hnm
    go_enter Try.func21, Try.ntmps21
    go_wp2_with fail
    have q0 : (((w.alloc (.cells #[.slice A n c, .slice B n d, .string s] 26)).alloc (.cells #[.slice none 0 0, .slice none 0 0, .nilIface] 45)).alloc (.cells #[.slice none 0 0, .slice none 0 0, .nilIface] 45)).heap[w.heap.size]? = some (.cells #[.slice A n c, .slice B n d, .string s] 26 (0, 0)) := (Below.heap_alloc _ _ _ (by simp; omega)).trans (first_alloc _ _ _)
    have q1 : (((w.alloc (.cells #[.slice A n c, .slice B n d, .string s] 26)).alloc (.cells #[.slice none 0 0, .slice none 0 0, .nilIface] 45)).alloc (.cells #[.slice none 0 0, .slice none 0 0, .nilIface] 45)).heap[w.heap.size + 1]? = some (.cells #[.slice none 0 0, .slice none 0 0, .nilIface] 45 (0, 0)) := (Below.heap_alloc _ _ _ (by simp)).trans (second_alloc _ _ _)
    have q2 : (((w.alloc (.cells #[.slice A n c, .slice B n d, .string s] 26)).alloc (.cells #[.slice none 0 0, .slice none 0 0, .nilIface] 45)).alloc (.cells #[.slice none 0 0, .slice none 0 0, .nilIface] 45)).heap[w.heap.size + 2]? = some (.cells #[.slice none 0 0, .slice none 0 0, .nilIface] 45 (0, 0)) := by
      have h := heap_alloc_new ((w.alloc (.cells #[.slice A n c, .slice B n d, .string s] 26)).alloc (.cells #[.slice none 0 0, .slice none 0 0, .nilIface] 45)) (.cells #[.slice none 0 0, .slice none 0 0, .nilIface] 45)
      rw [show ((w.alloc (.cells #[.slice A n c, .slice B n d, .string s] 26)).alloc (.cells #[.slice none 0 0, .slice none 0 0, .nilIface] 45)).heap.size = w.heap.size + 2 from by simp] at h
      exact h
    have hb3 : Below w.heap.size w (((w.alloc (.cells #[.slice A n c, .slice B n d, .string s] 26)).alloc (.cells #[.slice none 0 0, .slice none 0 0, .nilIface] 45)).alloc (.cells #[.slice none 0 0, .slice none 0 0, .nilIface] 45)) := bb_alloc (bb_alloc (bb_alloc (Below.refl _ _) _) _) _
    have hz3 : (((w.alloc (.cells #[.slice A n c, .slice B n d, .string s] 26)).alloc (.cells #[.slice none 0 0, .slice none 0 0, .nilIface] 45)).alloc (.cells #[.slice none 0 0, .slice none 0 0, .nilIface] 45)).heap.size = w.heap.size + 3 := by simp
    generalize (((w.alloc (.cells #[.slice A n c, .slice B n d, .string s] 26)).alloc (.cells #[.slice none 0 0, .slice none 0 0, .nilIface] 45)).alloc (.cells #[.slice none 0 0, .slice none 0 0, .nilIface] 45)) = w3 at *
    have hb3' := Lib.hid hb3
    clear hb3
    obtain ⟨y0, a0, a1, a2, -, -, -⟩ := three_cells q0
    go_loopw [23] (fun i wr => ∃ (j : Nat) (l : List Bs) (A1 : Option Addr) (c1 : Nat), j ≤ n ∧ i = .int .i64 j ∧ readNs (ss.take j) = some l ∧ l.length = j ∧ wr.ownsRow (w.heap.size + 3) 49 2 (.slice A1 j c1) j (NVs l) ∧
        wr.heap[w.heap.size]? = some (.cells #[.slice A n c, .slice B n d, .string s] 26 (0, 0)) ∧ wr.heap[w.heap.size + 1]? = some (.cells #[.slice none 0 0, .slice none 0 0, .nilIface] 45 (0, 0)) ∧
        wr.heap[w.heap.size + 2]? = some (.cells #[.slice A1 j c1, .slice none 0 0, .nilIface] 45 (0, 0)) ∧ Below w.heap.size w wr)
      (fun i _ => n - (intOf i).toNat)
    case atStart => exact ⟨0, [], none, 0, Nat.zero_le _, rfl, rfl, rfl, World.ownsRow_nil _ _ _ _, q0, q1, q2, hb3'.out⟩
    case round =>
      obtain ⟨j, l, A1, c1, hj, rfl, hrd, hlj, own1, h0, h1, h2, hbel⟩ := hrel
      clear q0 q1 q2 a0 a1 a2
      obtain ⟨z0, a0, a1, a2, -, -, -⟩ := three_cells h0
      obtain ⟨z1, b0, b1, b2, f0, f1, f2⟩ := three_cells h1
      obtain ⟨z2, d0, d1, d2, g0, g1, g2⟩ := three_cells h2
      have h0' := Lib.hid h0
      have h1' := Lib.hid h1
      have h2' := Lib.hid h2
      have own1' := Lib.hid own1
      have hbel' := Lib.hid hbel
      clear h0 h1 h2 own1 hbel
      by_cases hlt : j < n
      · obtain ⟨b, o, hAe, hblt, hc⟩ := (hA'.out wr hbel'.out).2 (by omega)
        subst hAe
        have l1 : j < ss.length := by have := hlA.out; omega
        have x1 := hc j ss[j] (List.getElem?_eq_getElem l1)
        have hstep := readNs_step l1 hrd
        generalize ss[j] = t at x1 hstep
        clear hc hrd
        go_wp2_with fail
        refine (readName_any t _).mono ?_
        rintro e w1 ⟨rfl, hb1⟩
        have p0 := Lib.hid ((hb1.block w.heap.size z0).trans h0'.out)
        have p1 := Lib.hid ((hb1.block (w.heap.size + 1) z1).trans h1'.out)
        have p2 := Lib.hid ((hb1.block (w.heap.size + 2) z2).trans h2'.out)
        have own2 := Lib.hid (own_below own1'.out hb1)
        have hbel2 := Lib.hid (below_step hbel'.out (Nat.le_refl _) hb1)
        clear a0 a1 a2 b0 b1 b2 f0 f1 f2 d0 d1 d2 g0 g1 g2 own1'
        obtain ⟨z0, a0, a1, a2, -, -, -⟩ := three_cells p0.out
        obtain ⟨z1, b0, b1, b2, f0, f1, f2⟩ := three_cells p1.out
        obtain ⟨z2, d0, d1, d2, g0, g1, g2⟩ := three_cells p2.out
        clear hb1
        cases hnt : isName t.data.toList
        · rw [hnt] at hstep
          have hN := Lib.hid (readTy_names (ts := ts) (z := s) (readNs_stop (j := j + 1) (by rw [hstep]; rfl)))
          rw [if_neg (by simp), show noName = .agg #[.int .u8 0, .string ⟨#[]⟩] from rfl]
          clear hstep hnt
          go_wp2_with fail
          have hal := fun (W : World) (o : Obj) (k : Nat) (h : w.heap.size + 1 < W.heap.size) => World.cell?_alloc_lt W o ⟨w.heap.size + 1, k, none⟩ h
          refine bodyPost_ret (v := .tuple #[.agg #[.slice none 0 0, .slice none 0 0, .nilIface], .bool false]) (by simp [results, Try.results21, go_sem, b0, b1, b2, hal, z1]) rfl ?_
          have hbel := hbel2.out
          exact hno.out hN.out _ (by repeat (with_reducible first | exact hbel | exact Below.refl _ _ | refine Below.drew ?_ | refine Below.drewN ?_ _ | refine Below.alloc ?_ (by first | (simp; done) | (simp; omega) | omega | (have := Below.size hbel; simp; omega) | (have := Below.size hbel; omega)) _ | refine Below.setCell ?_ (by first | (simp; done) | (simp; omega) | omega) _))
        · rw [hnt, if_pos rfl] at hstep
          rw [if_pos rfl]
          generalize t.data.toList = tn at *
          obtain ⟨c0, d0', rfl⟩ : ∃ c0 d0, tn = c0 :: d0 := by cases tn with
            | nil => cases hnt
            | cons c d => exact ⟨c, d, rfl⟩
          rw [show nameO (c0 :: d0') = nameV c0 d0' from rfl]
          have hstep' := Lib.hid hstep
          clear hstep hnt
          go_wp2_with (first
            | (at_builtin; go_loud (refine wpList_append_lies _ rfl (.tmp 36) (.tmp 38) 40 rfl (w.heap.size + 3) 49 i0 _ 2 24 Try.underlying40 hi0 hz0 hz1 hz2 rfl (by decide) _ _ _ rfl ((own2.out.alloc _).alloc _) ⟨w1.heap.size + 1, 0, none⟩ 1 1 [.int .u8 c0.toNat, str d0'] rfl rfl ?c1 ?c2 (by decide) ?c3 ?c4 ?c5 _ rfl ?_))
            | fail)
          case c1 => exact add_cells (second_alloc _ _ _)
          case c2 => intro u hu; simp at hu; rcases hu with rfl | rfl <;> rfl
          case c3 => unfold maxLen; omega
          case c4 => omega
          case c5 => simp; omega
          intro g cap w2 own3 gr3 hat hlt3
          have e3 : NVs (l ++ [c0 :: d0']) = NVs l ++ [.int .u8 c0.toNat, str d0'] := by rw [NVs_append]; rfl
          have own3' := Lib.hid (show w2.ownsRow (w.heap.size + 3) 49 2 (.slice (some ⟨g, 0, none⟩) (j + 1) cap) (j + 1) (NVs (l ++ [c0 :: d0'])) from by rw [e3]; exact own3)
          have hgb : ∀ k, (Value.slice A1 j c1).ownBlock = some k → w.heap.size + 3 ≤ k := fun k hk => (own2.out.lt k hk).1
          have hgb2 : w.heap.size + 3 ≤ g := (own3.lt g rfl).1
          have s0 := (gr3.block w.heap.size (by simp; omega) (fun e => by have := hgb _ e.symm; omega)).trans (((Below.heap_alloc _ _ _ (by simp; omega)).trans (Below.heap_alloc _ _ _ (by omega))).trans p0.out)
          have s1 := (gr3.block (w.heap.size + 1) (by simp; omega) (fun e => by have := hgb _ e.symm; omega)).trans (((Below.heap_alloc _ _ _ (by simp; omega)).trans (Below.heap_alloc _ _ _ (by omega))).trans p1.out)
          have s2 := (gr3.block (w.heap.size + 2) (by simp; omega) (fun e => by have := hgb _ e.symm; omega)).trans (((Below.heap_alloc _ _ _ (by simp; omega)).trans (Below.heap_alloc _ _ _ (by omega))).trans p2.out)
          have hbel3 := Lib.hid ((bb_alloc (bb_alloc hbel2.out _) _).grown gr3 (by have := hbel2.out.size; simp; omega) (fun k hk => by have := hgb k hk; omega) : Below w.heap.size w w2)
          have s0' := Lib.hid s0
          have s1' := Lib.hid s1
          have s2' := Lib.hid s2
          clear a0 a1 a2 b0 b1 b2 f0 f1 f2 d0 d1 d2 g0 g1 g2 own3 gr3 hat e3 own2 z0 z1 z2 p0 p1 p2 hbel2
          obtain ⟨z2, d0, d1, d2, g0, g1, g2⟩ := three_cells s2
          clear s0 s1 s2
          go_wp2_with fail
          go_roundw
          case rel => exact ⟨j + 1, l ++ [c0 :: d0'], some ⟨g, 0, none⟩, cap, by omega, by go_num, hstep'.out, by simp; omega,
            own_same own3'.out (fun k hk => Below.heap_setCell _ _ _ _ (by have := (own3'.out.lt k hk).1; simp only; omega)),
            (Below.heap_setCell _ _ _ _ (by simp only; omega)).trans s0'.out, (Below.heap_setCell _ _ _ _ (by simp only; omega)).trans s1'.out, set_first3 s2'.out, by have hbel := hbel3.out; exact (by repeat (with_reducible first | exact hbel | exact Below.refl _ _ | refine Below.drew ?_ | refine Below.drewN ?_ _ | refine Below.alloc ?_ (by first | (simp; done) | (simp; omega) | omega | (have := Below.size hbel; simp; omega) | (have := Below.size hbel; omega)) _ | refine Below.setCell ?_ (by first | (simp; done) | (simp; omega) | omega) _))⟩
          case measure => simp [intOf]; omega
      · obtain rfl : j = n := by omega
        rw [List.take_of_length_le (by have := hlA.out; omega)] at hrd
        have hcN := Lib.hid own1'.out
        have hrd' := Lib.hid hrd
        have hlN := Lib.hid hlj
        have hF := Lib.hid (readFormulas_any B j d ts wr (hB'.out wr hbel'.out) hm)
        clear hrd hlj own1'
        go_wp2_with fail
        refine Calls.mono hF.out ?_
        rintro e w1 ⟨hb1, A2, c2, n2, rfl, hR⟩
        have p0 := Lib.hid ((hb1.block w.heap.size z0).trans h0'.out)
        have p1 := Lib.hid ((hb1.block (w.heap.size + 1) z1).trans h1'.out)
        have p2 := Lib.hid ((hb1.block (w.heap.size + 2) z2).trans h2'.out)
        have hcN1 := Lib.hid (own_below hcN.out hb1)
        have hbel1 := Lib.hid (below_step hbel'.out (Nat.le_refl _) hb1)
        have hwr := hb1.size
        clear a0 a1 a2 b0 b1 b2 f0 f1 f2 d0 d1 d2 g0 g1 g2 hb1
        obtain ⟨z0, a0, a1, a2, -, -, -⟩ := three_cells p0.out
        obtain ⟨z1, b0, b1, b2, f0, f1, f2⟩ := three_cells p1.out
        obtain ⟨z2, d0, d1, d2, g0, g1, g2⟩ := three_cells p2.out
        have hR' := Lib.hid hR
        clear hR
        cases hfo : readFs ts with
        | none =>
          have hN := Lib.hid (readTy_types (ns := ss) (z := s) hfo)
          rw [show (none : Option (List F)).isSome = false from rfl]
          clear hfo
          go_wp2_with fail
          refine bodyPost_ret (v := .tuple #[.agg #[.slice none 0 0, .slice none 0 0, .nilIface], .bool false]) (by simp [results, Try.results21, go_sem, b0, b1, b2]) rfl ?_
          have hbel := hbel1.out
          exact hno.out hN.out _ (by repeat (with_reducible first | exact hbel | exact Below.refl _ _ | refine Below.drew ?_ | refine Below.drewN ?_ _ | refine Below.alloc ?_ (by first | (simp; done) | (simp; omega) | omega | (have := Below.size hbel; simp; omega) | (have := Below.size hbel; omega)) _ | refine Below.setCell ?_ (by first | (simp; done) | (simp; omega) | omega) _))
        | some fs =>
          have hRf := Lib.hid (hR'.out fs hfo)
          rw [show (some fs : Option (List F)).isSome = true from rfl]
          have hfo' := Lib.hid hfo
          clear hfo hR'
          have hyes : Hid (∀ wh W, readWh s = some wh → Turn w.heap.size (w.heap.size + 3) w1 W → RtPost (readTy ss ts s) w (.returned (.tuple #[.agg #[.slice A1 j c1, .slice A2 n2 c2, fvO wh], .bool true])) W) := Lib.hid fun wh W hwh hT => by
            rw [readTy_some (by have := hlA.out; have := hlB.out; omega) hrd'.out hfo'.out hwh]
            refine ⟨hT.belows hbel1.out (Nat.le_refl _), _, _, _, _, _, _, _, rfl, fun y hy => ?_⟩
            injection hy with hy
            subst hy
            exact ⟨⟨RowN.of_own (own_same hcN1.out (fun k hk => hT.block k (hcN1.out.lt k hk).2 (by have := (hcN1.out.lt k hk).1; omega))), (hRf.out.turn hT (by omega)).mono (by have := hbel'.out.size; omega)⟩, rfl⟩
          by_cases hse : s.size = 0
          · have hsb : (s.toList == []) = true := by rw [Lib.toList_data, beq_iff_eq]; rw [ba_size] at hse; exact List.eq_nil_of_length_eq_zero hse
            go_wp2_with fail
            refine bodyPost_ret (v := .tuple #[.agg #[.slice A1 j c1, .slice A2 n2 c2, .nilIface], .bool true]) (by simp [results, Try.results21, go_sem, b0, b1, b2]) rfl ?_
            exact hyes.out none _ (readWh_empty hse) ((((Turn.refl _ _ _).set _ _ _ (by omega)).set _ _ _ (by omega)).set _ _ _ (by omega) |>.set _ _ _ (by omega))
          · have hsb : (s.toList == []) = false := by rw [Lib.toList_data, beq_eq_false_iff_ne]; intro e; rw [ba_size, e] at hse; exact hse rfl
            have hrf := Lib.hid (fun W => readFormula_any s W)
            go_wp2_with fail
            refine Calls.mono (hrf.out _) ?_
            rintro e w2 ⟨hb2, rfl⟩
            have hsc : (w1.setCell ⟨w.heap.size + 1 + 1, 1, none⟩ (.slice A2 n2 c2)).heap.size = w1.heap.size := by simp
            have r1 := (hb2.block (w.heap.size + 1) (by rw [hsc]; exact z1)).trans ((Below.heap_setCell _ _ _ _ (by simp only; omega)).trans p1.out)
            have r2 := (hb2.block (w.heap.size + 2) (by rw [hsc]; exact z2)).trans (set_second3 p2.out)
            have hT2 := Lib.hid (((Turn.refl w.heap.size (w.heap.size + 3) w1).set (w.heap.size + 1 + 1) 1 (.slice A2 n2 c2) (by omega)).trans (Turn.ofBelow hb2))
            clear a0 a1 a2 b0 b1 b2 f0 f1 f2 d0 d1 d2 g0 g1 g2 hb2
            obtain ⟨z1, b0, b1, b2, f0, f1, f2⟩ := three_cells r1
            obtain ⟨z2, d0, d1, d2, g0, g1, g2⟩ := three_cells r2
            clear r1 r2
            cases hrd : readF s.data.toList with
            | none =>
              have hN := Lib.hid (readTy_whole (ns := ss) (ts := ts) (z := s) (by rw [readWh_full hse, hrd]; rfl))
              rw [show fvO none = .nilIface from rfl, show (none : Option F).isSome = false from rfl]
              clear hrd
              go_wp2_with fail
              refine bodyPost_ret (v := .tuple #[.agg #[.slice none 0 0, .slice none 0 0, .nilIface], .bool false]) (by simp [results, Try.results21, go_sem, b0, b1, b2]) rfl ?_
              exact hno.out hN.out _ ((((hT2.out.set _ _ _ (by omega)).set _ _ _ (by omega)).set _ _ _ (by omega)).belows hbel1.out (Nat.le_refl _))
            | some f =>
              have hW := Lib.hid (show readWh s = some (some f) by rw [readWh_full hse, hrd]; rfl)
              rw [show fvO (some f) = .iface (ft f) (fi f) from rfl, show (some f).isSome = true from rfl]
              clear hrd
              go_wp2_with fail
              refine bodyPost_ret (v := .tuple #[.agg #[.slice A1 j c1, .slice A2 n2 c2, .iface (ft f) (fi f)], .bool true]) (by simp [results, Try.results21, go_sem, b0, b1, b2]) rfl ?_
              exact hyes.out (some f) _ hW.out ((((hT2.out.set _ _ _ (by omega)).set _ _ _ (by omega)).set _ _ _ (by omega)).set _ _ _ (by omega))
  · have h0 := Lib.hid (readTy_len (z := s) (show ss.length ≠ ts.length by have := hlA.out; have := hlB.out; omega))
    have hb1 : (((n : Int) != (m : Int))) = true := by rw [bne_iff_ne]; omega
    clear hnm hA' hB' hlA hlB
    go_enter Try.func21, Try.ntmps21
    go_wp2_with fail
    refine bodyPost_ret (v := .tuple #[.agg #[.slice none 0 0, .slice none 0 0, .nilIface], .bool false]) (by simp [results, Try.results21, go_sem]) rfl ?_
    exact hno.out h0.out _ (by repeat (with_reducible first | exact hbel | exact Below.refl _ _ | refine Below.drew ?_ | refine Below.drewN ?_ _ | refine Below.alloc ?_ (by first | (simp; done) | (simp; omega) | omega | (have := Below.size hbel; simp; omega) | (have := Below.size hbel; omega)) _ | refine Below.setCell ?_ (by first | (simp; done) | (simp; omega) | omega) _))

end Go.Proofs.Ytdbdcfijeeelkaa
