/- The model's l1Fails. -/
import Derived.Test.YtmnppkmgohpmaaaSeqVF
import Derived.Test.YtmnppkmgohpmaaaSeqTrue
namespace Go.Proofs.Ytmnppkmgohpmaaa
open Go.RowKit

def l1F (L : List ByteArray) (fs gs : List F) : List ByteArray × Int := if 10 < L.length then ([], 2) else match ff L fs gs with
  | some b => (pick b 0 L, 1)
  | none => ([], 0)

def FRet (o : List ByteArray × Int) (w : World) (e : Ending) (w' : World) : Prop :=
  ∃ C k, e = .returned (.tuple #[.slice C o.1.length k, .int .i64 o.2]) ∧ w'.ownsRow w.heap.size 9 1 (.slice C o.1.length k) o.1.length (o.1.map Value.string) ∧ Below w.heap.size w w'

set_option maxRecDepth 100000 in
theorem l1Fails_any (A B : Option Addr) (n c m d : Nat) (fs gs : List F) (w : World) (D : Nat → Prop) (hA : TCs w D (fs.map F.tree) A n) (hB : TCs w D (gs.map F.tree) B m) (hD : ∀ g, D g → g < w.heap.size)
    (sf : ∀ f ∈ fs, f.ok = true ∧ f.size ≤ 60) (sg : ∀ g ∈ gs, g.ok = true ∧ g.size ≤ 60) (h12 : fs.length + gs.length ≤ 12) :
    Calls Try.prog 51 #[.slice A n c, .slice B m d] w (FRet (l1F (seqL fs gs) fs gs) w) := by
  obtain ⟨i0, hi0, hz0, hz1, hz2⟩ := info_parts infoStr
  have hlf : Hid (n = fs.length) := Lib.hid (by simpa using hA.1)
  have hlg : Hid (m = gs.length) := Lib.hid (by simpa using hB.1)
  have hA' := Lib.hid hA
  have hB' := Lib.hid hB
  have hD' := Lib.hid hD
  have z1 : sizes fs ≤ 720 := by have := sizes_le (fun f h => (sf f h).2); omega
  have z2 : sizes gs ≤ 720 := by have := sizes_le (fun f h => (sg f h).2); omega
  have hT := Lib.hid (fun W C k e P (hW : Below w.heap.size w W) (hC : RowS W C k P) (hk : k ≤ 10000000) => l1True_any A B C n c m d k e fs gs P W D
    (hA.keep (fun g hg => hW.block g (hD g hg)) (fun _ h => h)) (hB.keep (fun g hg => hW.block g (hD g hg)) (fun _ h => h)) (fun g hg => Nat.lt_of_lt_of_le (hD g hg) hW.size) hC hk (by have := hlf.out; omega) (by have := hlg.out; omega))
  have hcall : Hid (∀ (f : F) W a p l cc (acc : List ByteArray) (C : Option Addr) (k : Nat), Below w.heap.size w W → TC w D f.tree a p l cc → W.ownsRow w.heap.size 9 1 (.slice C acc.length k) acc.length (acc.map Value.string) → acc.length + f.size ≤ 1000000 →
      Calls Try.prog 37 #[.agg #[.string a, .slice p l cc], .slice C acc.length k] W (LRet w.heap.size (addL acc f) (.slice C acc.length k) W)) := Lib.hid fun f W a p l cc acc C k hW ht own hl =>
    lt_of f w.heap.size acc C k W D a p l cc (TC.keep (fun g hg => hW.block g (hD g hg)) (fun _ h => h) _ _ _ _ _ ht) (fun g hg => ⟨Nat.lt_of_lt_of_le (hD g hg) hW.size, fun e => by have := (own.lt g e).1; have := hD g hg; omega⟩) own hW.size hl
  generalize hSL : seqL fs gs = SL
  have hSL' := Lib.hid hSL
  clear hA hB hD sf sg hSL
  go_enter Try.func51, Try.ntmps51
  go_wp2_with fail
  go_loopw [6, 7] (fun v i wr => ∃ (j : Nat) (P : List ByteArray) (C : Option Addr) (k : Nat), j ≤ n ∧ i = .int .i64 j ∧ v = .slice C P.length k ∧ P = addAll [] (fs.take j) ∧
      wr.ownsRow w.heap.size 9 1 (.slice C P.length k) P.length (P.map Value.string) ∧ Below w.heap.size w wr)
    (fun _ i _ => n - (intOf i).toNat)
  case atStart => exact ⟨0, [], some ⟨w.heap.size, 0, none⟩, 0, Nat.zero_le _, rfl, rfl, rfl, own_empty w w.heap.size (Nat.le_refl _) 9, (Below.refl _ _).alloc (Nat.le_refl _) _⟩
  case round =>
    obtain ⟨j, P, C, k, hj, rfl, rfl, hP, own1, hb1⟩ := hrel
    by_cases hlt : j < n
    · obtain ⟨g, rfl, hg, hc⟩ := hA'.out.2 (by omega)
      have l1 : j < fs.length := by have := hlf.out; omega
      obtain ⟨f, hfj⟩ : ∃ f, fs[j]? = some f := ⟨fs[j], List.getElem?_eq_getElem l1⟩
      obtain ⟨a, p, l, cc, x0, x1, tc⟩ := hc j f.tree (by rw [List.getElem?_map, hfj]; rfl)
      have hgw := hD'.out g hg
      have y0 := (hb1.cell (p := ⟨g, j * 2, none⟩) hgw).trans x0
      have y1 := (hb1.cell (p := ⟨g, j * 2 + 1, none⟩) hgw).trans x1
      have i1 : (j : Int) < (n : Int) := by omega
      have i0' : (0 : Int) ≤ (j : Int) := by omega
      have t1 := sizes_take hfj
      have t2 := addAll_length (fs.take j) []
      have hadd : Hid (addL P f = addAll [] (fs.take (j + 1))) := Lib.hid (by rw [addAll_take hfj, hP])
      have hcl := Lib.hid (hcall.out f wr a p l cc P C k hb1 tc own1 (by rw [hP]; simp at t2; omega))
      have own1' := Lib.hid own1
      have hb1' := Lib.hid hb1
      clear hc own1 hb1 hP hfj t1 t2 x0 x1 tc
      go_wp2_with fail
      refine hcl.out.mono ?_
      rintro e w1 ⟨C1, k1, rfl, own2, gr, mv⟩
      have own2' := Lib.hid own2
      have hb2 := Lib.hid (hb1'.out.grown gr hb1'.out.size (fun k hk => (own1'.out.lt k hk).1))
      clear own2 gr mv
      go_wp2_with fail
      go_roundw
      case rel => exact ⟨j + 1, addL P f, C1, k1, by omega, by go_num, rfl, hadd.out, own2'.out, hb2.out⟩
      case measure => simp [intOf]; omega
    · have hP' : Hid (P = addAll [] fs) := Lib.hid (by rw [List.take_of_length_le (by have := hlf.out; omega)] at hP; exact hP)
      have hlenP : P.length ≤ 720 := by rw [hP'.out]; have := addAll_length fs []; simp at this; omega
      have own1' := Lib.hid own1
      have hb1' := Lib.hid hb1
      clear own1 hb1 hP
      go_wp2_with fail
      go_loopw [6, 8] (fun v i wr => ∃ (j : Nat) (Q : List ByteArray) (C : Option Addr) (k : Nat), j ≤ m ∧ i = .int .i64 j ∧ v = .slice C Q.length k ∧ Q = addAll P (gs.take j) ∧
          wr.ownsRow w.heap.size 9 1 (.slice C Q.length k) Q.length (Q.map Value.string) ∧ Below w.heap.size w wr)
        (fun _ i _ => m - (intOf i).toNat)
      case atStart => exact ⟨0, P, C, k, Nat.zero_le _, rfl, rfl, rfl, own1'.out, hb1'.out⟩
      case round =>
        obtain ⟨j2, Q, C2, k2, hj2, rfl, rfl, hQ, own1, hb1⟩ := hrel
        by_cases hlt2 : j2 < m
        · obtain ⟨g, rfl, hg, hc⟩ := hB'.out.2 (by omega)
          have l1 : j2 < gs.length := by have := hlg.out; omega
          obtain ⟨f, hfj⟩ : ∃ f, gs[j2]? = some f := ⟨gs[j2], List.getElem?_eq_getElem l1⟩
          obtain ⟨a, p, l, cc, x0, x1, tc⟩ := hc j2 f.tree (by rw [List.getElem?_map, hfj]; rfl)
          have hgw := hD'.out g hg
          have y0 := (hb1.cell (p := ⟨g, j2 * 2, none⟩) hgw).trans x0
          have y1 := (hb1.cell (p := ⟨g, j2 * 2 + 1, none⟩) hgw).trans x1
          have i1 : (j2 : Int) < (m : Int) := by omega
          have i0' : (0 : Int) ≤ (j2 : Int) := by omega
          have t1 := sizes_take hfj
          have t2 := addAll_length (gs.take j2) P
          have hadd : Hid (addL Q f = addAll P (gs.take (j2 + 1))) := Lib.hid (by rw [addAll_take hfj, hQ])
          have hcl := Lib.hid (hcall.out f wr a p l cc Q C2 k2 hb1 tc own1 (by rw [hQ]; omega))
          have own3' := Lib.hid own1
          have hb3' := Lib.hid hb1
          clear hc own1 hb1 hQ hfj t1 t2 x0 x1 tc
          go_wp2_with fail
          refine hcl.out.mono ?_
          rintro e w1 ⟨C1, k1, rfl, own2, gr, mv⟩
          have own2' := Lib.hid own2
          have hb2 := Lib.hid (hb3'.out.grown gr hb3'.out.size (fun k hk => (own3'.out.lt k hk).1))
          clear own2 gr mv
          go_wp2_with fail
          go_roundw
          case rel => exact ⟨j2 + 1, addL Q f, C1, k1, by omega, by go_num, rfl, hadd.out, own2'.out, hb2.out⟩
          case measure => simp [intOf]; omega
        · have e : SL = Q := by rw [List.take_of_length_le (by have := hlg.out; omega)] at hQ; rw [hQ, hP'.out, ← hSL'.out]; rfl
          have hlenQ : Q.length ≤ 2000 := by rw [List.take_of_length_le (by have := hlg.out; omega)] at hQ; rw [hQ]; have := addAll_length gs P; omega
          have hR := Lib.hid (RowS.of_own own1)
          have hb1'' := Lib.hid hb1
          clear own1 hb1 hQ
          subst e
          by_cases h10 : 10 < SL.length
          · have i10 : (10 : Int) < (SL.length : Int) := by omega
            have hfin : Hid (FRet (l1F SL fs gs) w (.returned (.tuple #[.slice (some ⟨wr.heap.size, 0, none⟩) 0 0, .int .i64 2])) (wr.alloc (.cells #[] 9))) := Lib.hid (by
              rw [l1F, if_pos h10]
              exact ⟨_, _, rfl, own_empty wr w.heap.size hb1''.out.size _, bb_alloc hb1''.out _⟩)
            go_wp2_with fail
            refine bodyPost_ret (v := .tuple #[.slice (some ⟨wr.heap.size, 0, none⟩) 0 0, .int .i64 2]) (by simp [results, Try.results51, go_sem]) rfl ?_
            exact hfin.out
          · have i10 : ¬ (10 : Int) < (SL.length : Int) := by omega
            have hff : Hid (∀ j W P D dd, j < 2 ^ SL.length → P = pick j 0 SL → failsAt SL fs gs j = true → (∀ i, i < j → failsAt SL fs gs i = false) → W.ownsRow w.heap.size 9 1 (.slice D P.length dd) P.length (P.map Value.string) → Below w.heap.size w W →
                FRet (l1F SL fs gs) w (.returned (.tuple #[.slice D P.length dd, .int .i64 1])) W) := Lib.hid fun j W P D dd h1 h2 h3 h4 h5 h6 => by
              subst h2
              rw [l1F, if_neg h10, ff_some h1 h3 h4]
              exact ⟨D, dd, rfl, h5, h6⟩
            have hnn : Hid (∀ W, (∀ i, i < 2 ^ SL.length → failsAt SL fs gs i = false) → Below w.heap.size w W → FRet (l1F SL fs gs) w (.returned (.tuple #[.slice (some ⟨W.heap.size, 0, none⟩) 0 0, .int .i64 0])) (W.alloc (.cells #[] 9))) := Lib.hid fun W h1 h2 => by
              rw [l1F, if_neg h10, ff_none h1]
              exact ⟨_, _, rfl, own_empty W w.heap.size h2.size _, bb_alloc h2 _⟩
            obtain ⟨N, hN, hN2, hN10⟩ := pow_wrap SL.length (by omega)
            have hN2' := Lib.hid hN2
            clear hN2
            go_wp2_with fail
            go_loopw [9] (fun i wr => ∃ j : Nat, j ≤ N ∧ i = .int .i64 j ∧ (∀ i, i < j → failsAt SL fs gs i = false) ∧ Below w.heap.size w wr ∧ RowS wr C2 SL.length SL)
              (fun i _ => N - (intOf i).toNat)
            case atStart => exact ⟨0, Nat.zero_le _, rfl, fun i hi => absurd hi (by omega), hb1''.out, hR.out⟩
            case round =>
              obtain ⟨j, hj, rfl, hall, hb0, hrow⟩ := hrel
              have hall' := Lib.hid hall
              have hb0' := Lib.hid hb0
              have hrow' := Lib.hid hrow
              obtain ⟨wo, hwo⟩ : ∃ x, x = wr := ⟨_, rfl⟩
              subst hwo
              have hlo : w.heap.size ≤ wo.heap.size := hb0.size
              clear hall hb0 hrow
              by_cases hlt3 : j < N
              · have i1 : (j : Int) < wrap64 (2 ^ SL.length) := by rw [hN]; omega
                go_wp2_with fail
                rw [hN]
                clear hN i1
                go_loopw [10, 11] (fun v i wr => ∃ (jj : Nat) (P : List ByteArray) (B' : Option Addr) (dd : Nat), jj ≤ SL.length ∧ i = .int .i64 jj ∧ v = .slice B' P.length dd ∧ P = pick j 0 (SL.take jj) ∧ P.length ≤ jj ∧
                    wr.ownsRow wo.heap.size 9 1 (.slice B' P.length dd) P.length (P.map Value.string) ∧ Below wo.heap.size wo wr)
                  (fun _ i _ => SL.length - (intOf i).toNat)
                case atStart => exact ⟨0, [], some ⟨wo.heap.size, 0, none⟩, 0, Nat.zero_le _, rfl, rfl, rfl, Nat.le_refl _, own_empty wo wo.heap.size (Nat.le_refl _) 9, (Below.refl _ _).alloc (Nat.le_refl _) _⟩
                case round =>
                  obtain ⟨jj, P, B', dd, hjj, rfl, rfl, hP, hlen, own1, hb1⟩ := hrel
                  by_cases hlt4 : jj < SL.length
                  · obtain ⟨b, o, rfl, hblt, hc⟩ := hrow'.out.2 (by omega)
                    have x1 := (hb1.cell (p := ⟨b, o + jj, none⟩) hblt).trans (hc jj SL[jj] (List.getElem?_eq_getElem hlt4))
                    have hstep := pick_step j hlt4
                    rw [← hP] at hstep
                    generalize SL[jj] = t at x1 hstep
                    have i2 : (jj : Int) < (SL.length : Int) := by omega
                    have i0' : (0 : Int) ≤ (jj : Int) := by omega
                    have own1' := Lib.hid own1
                    have hb1' := Lib.hid hb1
                    have hstep' := Lib.hid hstep
                    clear hc own1 hb1 hP hstep
                    have hbit := bit_is j jj
                    cases hk : j.testBit jj with
                    | false =>
                      rw [hk] at hbit
                      have hstep2 := Lib.hid hstep'.out
                      rw [hk] at hstep2
                      clear hk hstep'
                      go_wp2_with fail
                      go_roundw
                      case rel => exact ⟨jj + 1, P, B', dd, by omega, by go_num, rfl, hstep2.out.symm, by omega, own1'.out, hb1'.out⟩
                      case measure => simp [intOf]; omega
                    | true =>
                      rw [hk] at hbit
                      have hstep2 := Lib.hid hstep'.out
                      rw [hk] at hstep2
                      clear hk hstep'
                      go_wp2_with (at_builtin; go_loud (refine wpList_append_lies _ rfl (.tmp 60) (.tmp 65) 23 rfl wo.heap.size 9 i0 _ 1 16 Try.underlying23 hi0 hz0 hz1 hz2 rfl (by decide) _ _ _ rfl (own1'.out.alloc _) ⟨wr.heap.size, 0, none⟩ 1 1 [.string t] rfl rfl ?c1 ?c2 (by decide) ?c3 ?c4 ?c5 _ rfl ?_))
                      case c2 => rfl
                      case c3 => unfold maxLen; omega
                      case c4 => omega
                      case c5 => have := hb1'.out.size; omega
                      intro g cap w3 own3 gr3 hat hlt5
                      have own3' := Lib.hid own3
                      have hb3' : Hid (Below wo.heap.size wo w3) := Lib.hid ((bb_alloc hb1'.out _).grown gr3 (by have := hb1'.out.size; simp; omega) (fun k hk => (own1'.out.lt k hk).1))
                      clear own3 gr3 hat
                      go_wp2_with fail
                      go_roundw
                      case rel =>
                        refine ⟨jj + 1, P ++ [t], some ⟨g, 0, none⟩, cap, by omega, by go_num, by simp, hstep2.out.symm, by simp; omega, ?_, hb3'.out⟩
                        have o := own3'.out
                        simpa using o
                      case measure => simp [intOf]; omega
                  · have hPe : Hid (P = pick j 0 SL) := Lib.hid (by rw [List.take_of_length_le (by omega)] at hP; exact hP)
                    have hbw := Lib.hid (below_step hb0'.out (Nat.le_refl _) hb1)
                    have hrow2 := Lib.hid (hrow'.out.below hb1)
                    have own1' := Lib.hid own1
                    have hcl := Lib.hid (hT.out wr B' P.length dd P hbw.out (RowS.of_own own1) (by omega))
                    have hfz : Hid (failsAt SL fs gs j = !seqHolds P fs gs) := Lib.hid (by rw [hPe.out]; rfl)
                    generalize seqHolds P fs gs = z at *
                    clear hP own1 hb1
                    go_wp2_with fail
                    refine hcl.out.mono ?_
                    rintro e w5 ⟨rfl, hb5⟩
                    have hbw5 := Lib.hid (below_step hbw.out (Nat.le_refl _) hb5)
                    have hrow5 := Lib.hid (hrow2.out.below hb5)
                    have own5 := Lib.hid (own_below own1'.out hb5)
                    clear hb5
                    cases z
                    · go_wp2_with fail
                      refine bodyPost_ret (v := .tuple #[.slice B' P.length dd, .int .i64 1]) (by simp [results, Try.results51, go_sem]) rfl ?_
                      exact hff.out j _ P B' dd (by rw [← hN2'.out]; exact hlt3) hPe.out (by rw [hfz.out]; rfl) hall'.out (own5.out.mono hlo) hbw5.out
                    · go_wp2_with fail
                      go_roundw
                      case rel =>
                        refine ⟨j + 1, by omega, by go_num, fun i hi => ?_, hbw5.out, hrow5.out⟩
                        by_cases e : i = j
                        · subst e; rw [hfz.out]; rfl
                        · exact hall'.out i (by omega)
                      case measure => simp [intOf]; omega
              · have i1 : ¬ (j : Int) < wrap64 (2 ^ SL.length) := by rw [hN]; omega
                go_wp2_with fail
                refine bodyPost_ret (v := .tuple #[.slice (some ⟨wo.heap.size, 0, none⟩) 0 0, .int .i64 0]) (by simp [results, Try.results51, go_sem]) rfl ?_
                exact hnn.out _ (fun i hi => hall'.out i (by rw [← hN2'.out] at hi; omega)) hb0'.out

end Go.Proofs.Ytmnppkmgohpmaaa
