/- spec.TypeInstance. -/
import Derived.Test.YtdbdcfijeeelkaaInstM
namespace Go.Proofs.Ytdbdcfijeeelkaa
set_option linter.unusedVariables false
open Go.RowKit

theorem own_at {W : World} {E : TypeId} {k : Nat} (h : W.heap.size = k) : (W.alloc (.cells #[] E)).ownsRow W.heap.size E 1 (.slice (some ⟨k, 0, none⟩) 0 0) 0 [] := by
  subst h
  exact own_empty W W.heap.size (Nat.le_refl _) E
/-- spec.l1Formula of what can be read. -/
theorem l1F_some {s : ByteArray} {f : F} (h : readF s.data.toList = some f) (w : World) : Calls Try.prog 28 #[.string s] w fun e w' => ∃ a p l c, e = .returned (.tuple #[.agg #[.string a, .slice p l c], .bool true]) ∧ Below w.heap.size w w' ∧ TC w' (New w.heap.size w') f.tree a p l c := by
  refine Calls.mono (l1Formula_any s w) ?_
  rintro e w1 ⟨hb1, hp⟩
  rcases hp with ⟨g, a, p, l, c, hrd, rfl, htc⟩ | ⟨a, p, l, c, hrd, rfl⟩
  · rw [h] at hrd; injection hrd with hrd; subst hrd
    exact ⟨a, p, l, c, rfl, hb1, htc⟩
  · rw [h] at hrd; cases hrd
theorem readFs_at {ss : List ByteArray} {fs : List F} (h : readFs ss = some fs) {j : Nat} (hj : j < ss.length) : ∃ f, fs[j]? = some f ∧ readF ss[j].data.toList = some f := by
  induction ss generalizing fs j with
  | nil => simp at hj
  | cons x l ih =>
    simp only [readFs] at h
    cases hx : readF x.data.toList with
    | none => rw [hx] at h; simp at h
    | some f =>
      cases hl : readFs l with
      | none => rw [hx, hl] at h; simp at h
      | some gs =>
        rw [hx, hl] at h
        simp at h
        subst h
        cases j with
        | zero => exact ⟨f, rfl, hx⟩
        | succ j => simpa using ih hl (by simpa using hj)

set_option maxRecDepth 100000 in
set_option maxHeartbeats 2000000 in
theorem specInst_any (A : Option Addr) (n c : Nat) (ss : List ByteArray) (B : Option Addr) (m d : Nat) (ts : List ByteArray) (s : ByteArray) (A' : Option Addr) (n' c' : Nat) (ss' : List ByteArray) (B' : Option Addr) (m' d' : Nat) (ts' : List ByteArray) (s' : ByteArray) (w : World)
    (hA : RowS w A n ss) (hB : RowS w B m ts) (hA2 : RowS w A' n' ss') (hB2 : RowS w B' m' ts') (hn : n ≤ 1100000) (hm : m ≤ 1100000) (hn' : n' ≤ 1100000) (hm' : m' ≤ 1100000) (hc : n ≤ c) (hc' : n' ≤ c') :
    Calls Try.prog 12 #[tyV A n c B m d s, tyV A' n' c' B' m' d' s'] w fun e w' => e = .returned (.bool (instB (readTy ss ts s) (readTy ss' ts' s'))) ∧ Below w.heap.size w w' := by
  have hr1 := Lib.hid (fun W (hW : Below w.heap.size w W) => l3All_any A n c ss B m d ts s W (hA.below hW) (hB.below hW) (by omega) (by omega) hc)
  have hr2 := Lib.hid (fun W (hW : Below w.heap.size w W) => l3All_any A' n' c' ss' B' m' d' ts' s' W (hA2.below hW) (hB2.below hW) (by omega) (by omega) hc')
  have hRA := Lib.hid (fun W (hW : Below w.heap.size w W) => hA.below hW)
  have hRA' := Lib.hid (fun W (hW : Below w.heap.size w W) => hA2.below hW)
  have hRB := Lib.hid (fun W (hW : Below w.heap.size w W) => hB.below hW)
  have hRB' := Lib.hid (fun W (hW : Below w.heap.size w W) => hB2.below hW)
  have hla := Lib.hid hA.1
  have hla' := Lib.hid hA2.1
  have hlb := Lib.hid hB.1
  have hlb' := Lib.hid hB2.1
  have hnot := Lib.hid (@preI_not ss ts s ss' ts' s')
  clear hA hB hA2 hB2
  go_enter Try.func12, Try.ntmps12
  go_upto_region 1 with fail
  have q0 := first_alloc w (.cells #[.slice A n c, .slice B m d, .string s] 26) (.cells #[.slice A' n' c', .slice B' m' d', .string s'] 26)
  have q1 := second_alloc w (.cells #[.slice A n c, .slice B m d, .string s] 26) (.cells #[.slice A' n' c', .slice B' m' d', .string s'] 26)
  have hb0 : Below w.heap.size w ((w.alloc (.cells #[.slice A n c, .slice B m d, .string s] 26)).alloc (.cells #[.slice A' n' c', .slice B' m' d', .string s'] 26)) := bb_alloc (bb_alloc (Below.refl _ _) _) _
  have hz : ((w.alloc (.cells #[.slice A n c, .slice B m d, .string s] 26)).alloc (.cells #[.slice A' n' c', .slice B' m' d', .string s'] 26)).heap.size = w.heap.size + 2 := by simp
  generalize ((w.alloc (.cells #[.slice A n c, .slice B m d, .string s] 26)).alloc (.cells #[.slice A' n' c', .slice B' m' d', .string s'] 26)) = w0 at *
  have hb0' := Lib.hid hb0
  have hK : Hid (∀ W, Below w0.heap.size w0 W → W.cell? ⟨w.heap.size, 0, none⟩ = some (.slice A n c) ∧ W.cell? ⟨w.heap.size, 1, none⟩ = some (.slice B m d) ∧ W.cell? ⟨w.heap.size, 2, none⟩ = some (.string s) ∧
      W.cell? ⟨w.heap.size + 1, 0, none⟩ = some (.slice A' n' c') ∧ W.cell? ⟨w.heap.size + 1, 1, none⟩ = some (.slice B' m' d') ∧ W.cell? ⟨w.heap.size + 1, 2, none⟩ = some (.string s') ∧ w.heap.size + 1 < W.heap.size) := Lib.hid fun W hW => by
    obtain ⟨z0, a0, a1, a2, -⟩ := three_cells ((hW.block w.heap.size (by omega)).trans q0)
    obtain ⟨z1, e0, e1, e2, -⟩ := three_cells ((hW.block (w.heap.size + 1) (by omega)).trans q1)
    exact ⟨a0, a1, a2, e0, e1, e2, z1⟩
  clear hb0 q0 q1
  go_cut [42] from 17 to 42 (fun b wx => b = .bool (!preI ss ts s ss' ts' s') ∧ Below w0.heap.size w0 wx)
  case first =>
    obtain ⟨a0, a1, a2, e0, e1, e2, -⟩ := hK.out w0 (Below.refl _ _)
    have hp := Lib.hid (show preI ss ts s ss' ts' s' = ((allN ss ts && (readWh s).isSome) && (allN ss' ts' && (readWh s').isSome) && decide (ss.length = ss'.length) && (decide (s.size = 0) == decide (s'.size = 0))) from rfl)
    generalize preI ss ts s ss' ts' s' = pr at *
    generalize (allN ss ts && (readWh s).isSome) = G1 at *
    generalize (allN ss' ts' && (readWh s').isSome) = G2 at *
    cases G1
    · go_wp2_with (first | (go_at_call 27; refine Calls.mono (hr1.out _ hb0'.out) ?_; rintro e w1 ⟨rfl, hb1⟩))
      go_meet
      exact ⟨by rw [hp.out]; rfl, (by repeat (with_reducible first | exact Below.refl _ _ | exact hbb | refine Below.drew ?_ | refine Below.drewN ?_ _ | refine bb_alloc ?_ _ | refine below_step ?_ (Nat.le_refl _) hb1 | refine below_step ?_ (Nat.le_refl _) hb2 | refine below_step ?_ (Nat.le_refl _) hb3 | refine below_step ?_ (Nat.le_refl _) hb4))⟩
    · cases G2
      · go_wp2_with (first | (go_at_call_of 27 s; refine Calls.mono (hr1.out _ hb0'.out) ?_; rintro e w1 ⟨rfl, hb1⟩; obtain ⟨a0, a1, a2, e0, e1, e2, -⟩ := hK.out w1 (by repeat (with_reducible first | exact Below.refl _ _ | exact hbb | refine Below.drew ?_ | refine Below.drewN ?_ _ | refine bb_alloc ?_ _ | refine below_step ?_ (Nat.le_refl _) hb1 | refine below_step ?_ (Nat.le_refl _) hb2 | refine below_step ?_ (Nat.le_refl _) hb3 | refine below_step ?_ (Nat.le_refl _) hb4))) | (go_at_call_of 27 s'; refine Calls.mono (hr2.out _ (below_step hb0'.out (Nat.le_refl _) (by repeat (with_reducible first | exact Below.refl _ _ | exact hbb | refine Below.drew ?_ | refine Below.drewN ?_ _ | refine bb_alloc ?_ _ | refine below_step ?_ (Nat.le_refl _) hb1 | refine below_step ?_ (Nat.le_refl _) hb2 | refine below_step ?_ (Nat.le_refl _) hb3 | refine below_step ?_ (Nat.le_refl _) hb4)))) ?_; rintro e w2 ⟨rfl, hb2⟩; obtain ⟨a0, a1, a2, e0, e1, e2, -⟩ := hK.out w2 (by repeat (with_reducible first | exact Below.refl _ _ | exact hbb | refine Below.drew ?_ | refine Below.drewN ?_ _ | refine bb_alloc ?_ _ | refine below_step ?_ (Nat.le_refl _) hb1 | refine below_step ?_ (Nat.le_refl _) hb2 | refine below_step ?_ (Nat.le_refl _) hb3 | refine below_step ?_ (Nat.le_refl _) hb4))))
        go_meet
        exact ⟨by rw [hp.out]; rfl, (by repeat (with_reducible first | exact Below.refl _ _ | exact hbb | refine Below.drew ?_ | refine Below.drewN ?_ _ | refine bb_alloc ?_ _ | refine below_step ?_ (Nat.le_refl _) hb1 | refine below_step ?_ (Nat.le_refl _) hb2 | refine below_step ?_ (Nat.le_refl _) hb3 | refine below_step ?_ (Nat.le_refl _) hb4))⟩
      · by_cases hnn : n = n'
        · have hi : ((n : Int) != (n' : Int)) = false := by rw [hnn]; simp
          have hd : Hid (decide (ss.length = ss'.length) = true) := Lib.hid (decide_eq_true (by have := hla.out; have := hla'.out; omega))
          have hnn' := Lib.hid hnn
          clear hnn
          have hid : ∃ b1 b2, (s.toList == []) = b1 ∧ (s'.toList == []) = b2 ∧ decide (s.size = 0) = b1 ∧ decide (s'.size = 0) = b2 := by
            have e : ∀ x : ByteArray, decide (x.size = 0) = (x.toList == []) := fun x => by
              rw [Lib.toList_data, ba_size, Bool.eq_iff_iff, decide_eq_true_iff, beq_iff_eq, List.length_eq_zero_iff]
            exact ⟨_, _, rfl, rfl, e s, e s'⟩
          obtain ⟨b1, b2, hsb, hsb', hd1, hd2⟩ := hid
          have hds := Lib.hid hd1
          have hds' := Lib.hid hd2
          clear hd1 hd2
          go_wp2_with (first | (go_at_call_of 27 s; refine Calls.mono (hr1.out _ hb0'.out) ?_; rintro e w1 ⟨rfl, hb1⟩; obtain ⟨a0, a1, a2, e0, e1, e2, -⟩ := hK.out w1 (by repeat (with_reducible first | exact Below.refl _ _ | exact hbb | refine Below.drew ?_ | refine Below.drewN ?_ _ | refine bb_alloc ?_ _ | refine below_step ?_ (Nat.le_refl _) hb1 | refine below_step ?_ (Nat.le_refl _) hb2 | refine below_step ?_ (Nat.le_refl _) hb3 | refine below_step ?_ (Nat.le_refl _) hb4))) | (go_at_call_of 27 s'; refine Calls.mono (hr2.out _ (below_step hb0'.out (Nat.le_refl _) (by repeat (with_reducible first | exact Below.refl _ _ | exact hbb | refine Below.drew ?_ | refine Below.drewN ?_ _ | refine bb_alloc ?_ _ | refine below_step ?_ (Nat.le_refl _) hb1 | refine below_step ?_ (Nat.le_refl _) hb2 | refine below_step ?_ (Nat.le_refl _) hb3 | refine below_step ?_ (Nat.le_refl _) hb4)))) ?_; rintro e w2 ⟨rfl, hb2⟩; obtain ⟨a0, a1, a2, e0, e1, e2, -⟩ := hK.out w2 (by repeat (with_reducible first | exact Below.refl _ _ | exact hbb | refine Below.drew ?_ | refine Below.drewN ?_ _ | refine bb_alloc ?_ _ | refine below_step ?_ (Nat.le_refl _) hb1 | refine below_step ?_ (Nat.le_refl _) hb2 | refine below_step ?_ (Nat.le_refl _) hb3 | refine below_step ?_ (Nat.le_refl _) hb4))))
          go_meet
          exact ⟨by rw [hp.out, hd.out, hds.out, hds'.out]; cases b1 <;> cases b2 <;> rfl, (by repeat (with_reducible first | exact Below.refl _ _ | exact hbb | refine Below.drew ?_ | refine Below.drewN ?_ _ | refine bb_alloc ?_ _ | refine below_step ?_ (Nat.le_refl _) hb1 | refine below_step ?_ (Nat.le_refl _) hb2 | refine below_step ?_ (Nat.le_refl _) hb3 | refine below_step ?_ (Nat.le_refl _) hb4))⟩
        · have hi : ((n : Int) != (n' : Int)) = true := by rw [bne_iff_ne]; omega
          have hd : Hid (decide (ss.length = ss'.length) = false) := Lib.hid (decide_eq_false (by have := hla.out; have := hla'.out; omega))
          go_wp2_with (first | (go_at_call_of 27 s; refine Calls.mono (hr1.out _ hb0'.out) ?_; rintro e w1 ⟨rfl, hb1⟩; obtain ⟨a0, a1, a2, e0, e1, e2, -⟩ := hK.out w1 (by repeat (with_reducible first | exact Below.refl _ _ | exact hbb | refine Below.drew ?_ | refine Below.drewN ?_ _ | refine bb_alloc ?_ _ | refine below_step ?_ (Nat.le_refl _) hb1 | refine below_step ?_ (Nat.le_refl _) hb2 | refine below_step ?_ (Nat.le_refl _) hb3 | refine below_step ?_ (Nat.le_refl _) hb4))) | (go_at_call_of 27 s'; refine Calls.mono (hr2.out _ (below_step hb0'.out (Nat.le_refl _) (by repeat (with_reducible first | exact Below.refl _ _ | exact hbb | refine Below.drew ?_ | refine Below.drewN ?_ _ | refine bb_alloc ?_ _ | refine below_step ?_ (Nat.le_refl _) hb1 | refine below_step ?_ (Nat.le_refl _) hb2 | refine below_step ?_ (Nat.le_refl _) hb3 | refine below_step ?_ (Nat.le_refl _) hb4)))) ?_; rintro e w2 ⟨rfl, hb2⟩; obtain ⟨a0, a1, a2, e0, e1, e2, -⟩ := hK.out w2 (by repeat (with_reducible first | exact Below.refl _ _ | exact hbb | refine Below.drew ?_ | refine Below.drewN ?_ _ | refine bb_alloc ?_ _ | refine below_step ?_ (Nat.le_refl _) hb1 | refine below_step ?_ (Nat.le_refl _) hb2 | refine below_step ?_ (Nat.le_refl _) hb3 | refine below_step ?_ (Nat.le_refl _) hb4))))
          go_meet
          exact ⟨by rw [hp.out, hd.out]; rfl, (by repeat (with_reducible first | exact Below.refl _ _ | exact hbb | refine Below.drew ?_ | refine Below.drewN ?_ _ | refine bb_alloc ?_ _ | refine below_step ?_ (Nat.le_refl _) hb1 | refine below_step ?_ (Nat.le_refl _) hb2 | refine below_step ?_ (Nat.le_refl _) hb3 | refine below_step ?_ (Nat.le_refl _) hb4))⟩
  case rest =>
    obtain ⟨rfl, hbx⟩ := hcut
    have hbx' := Lib.hid hbx
    clear hbx
    cases hp : preI ss ts s ss' ts' s'
    · have hf := Lib.hid (hnot.out hp)
      clear hp
      go_wp2_with fail
      go_ret
      exact ⟨by rw [hf.out]; rfl, below_step hb0'.out (Nat.le_refl _) hbx'.out⟩
    · unfold preI at hp
      rw [Bool.and_eq_true, Bool.and_eq_true, Bool.and_eq_true, decide_eq_true_iff] at hp
      obtain ⟨⟨⟨hg1, hg2⟩, hlen⟩, hemp⟩ := hp
      obtain ⟨y, hy, hyn, hyN, hyF, hyW⟩ := allN_ty hg1
      obtain ⟨z, hz2, hzn, hzN, hzF, hzW⟩ := allN_ty hg2
      have hout : Hid (instB (readTy ss ts s) (readTy ss' ts' s') = (decide (y.ns = z.ns) && instTy y z)) := Lib.hid (by
        rw [hy, hz2]
        show (decide y.ns.Nodup && decide (y.ns = z.ns) && instTy y z) = _
        rw [decide_eq_true hyn]; rfl)
      have hfl : Hid (y.fs.length = z.fs.length) := Lib.hid (by
        rw [readFs_length hyF, readFs_length hzF, ← (readTy_inv hy).1, ← (readTy_inv hz2).1, hlen])
      have hnm : Hid (n = n' ∧ n = m ∧ n' = m') := Lib.hid (by
        have := (readTy_inv hy).1; have := (readTy_inv hz2).1; have := hla.out; have := hla'.out; have := hlb.out; have := hlb'.out
        omega)
      have hyF' := Lib.hid hyF
      have hzF' := Lib.hid hzF
      have hyN' := Lib.hid hyN
      have hzN' := Lib.hid hzN
      have hyW' := Lib.hid hyW
      have hzW' := Lib.hid hzW
      have hemp' := Lib.hid hemp
      clear hg1 hg2 hlen hemp hy hyn hyN hyF hyW hz2 hzn hzN hzF hzW hnot
      rw [show (!true) = false from rfl]
      go_wp2_with fail
      go_loopw [5, 6, 7, 8, 9, 10, 11, 12] (fun u' v' b i _ _ _ _ wr => ∃ (j : Nat) (bb : Bool) (u v : Value), u = u' ∧ v = v' ∧ j ≤ n' ∧ i = .int .i64 j ∧ b = .bool bb ∧ bb = (instAll (y.fs.take j) (z.fs.take j) []).isSome ∧ (∀ M1, instAll (y.fs.take j) (z.fs.take j) [] = some M1 → MR wr M1 u v) ∧ ss.take j = ss'.take j ∧ Below w0.heap.size w0 wr)
        (fun _ _ _ i _ _ _ _ _ => n' - (intOf i).toNat)
      case atStart => exact ⟨0, true, _, _, rfl, rfl, Nat.zero_le _, rfl, rfl, rfl, fun M1 h => by injection h with h; subst h; exact ⟨_, _, _, _, _, _, rfl, rfl, (own_empty _ _ (Nat.le_refl _) _).alloc _, own_at (by simp)⟩, rfl, bb_alloc (bb_alloc hbx'.out _) _⟩
      case round =>
        obtain ⟨j, bb, u, v, rfl, rfl, hj, rfl, rfl, hbb, hMR, hnames, hb3⟩ := hrel
        have hbww := Lib.hid (below_step hb0'.out (Nat.le_refl _) hb3)
        obtain ⟨a0, a1, a2, e0, e1, e2, esz⟩ := hK.out wr hb3
        have hMR' := Lib.hid hMR
        have hbb' := Lib.hid hbb
        have hb3' := Lib.hid hb3
        have hnames' := Lib.hid hnames
        clear hMR hb3 hbb hnames
        by_cases hlt : j < n'
        · cases bb
          · have hno := Lib.hid (instAll_stop (m := []) hfl.out (j := j) (by have := hbb'.out; cases h : instAll (y.fs.take j) (z.fs.take j) [] with
              | none => rfl
              | some m => rw [h] at this; cases this))
            go_wp2_with fail
            go_ret
            exact ⟨by rw [hout.out]; unfold instTy; rw [hno.out]; simp, hbww.out⟩
          · obtain ⟨M1, hM1⟩ : ∃ M1, instAll (y.fs.take j) (z.fs.take j) [] = some M1 := by
              have := hbb'.out
              cases h : instAll (y.fs.take j) (z.fs.take j) [] with
              | none => rw [h] at this; cases this
              | some m => exact ⟨m, rfl⟩
            obtain ⟨hnn, hnm1, hnm2⟩ := hnm.out
            obtain ⟨bA, oA, hAe, hbA, hcA⟩ := (hRA.out wr hbww.out).2 (by omega)
            obtain ⟨bA', oA', hAe', hbA', hcA'⟩ := (hRA'.out wr hbww.out).2 (by omega)
            obtain ⟨bB, oB, hBe, hbB, hcB⟩ := (hRB.out wr hbww.out).2 (by omega)
            obtain ⟨bB', oB', hBe', hbB', hcB'⟩ := (hRB'.out wr hbww.out).2 (by omega)
            subst hAe hAe' hBe hBe'
            have lA : j < ss.length := by have := hla.out; omega
            have lA' : j < ss'.length := by have := hla'.out; omega
            have lB : j < ts.length := by have := hlb.out; omega
            have lB' : j < ts'.length := by have := hlb'.out; omega
            have xA := hcA j ss[j] (List.getElem?_eq_getElem lA)
            have xA' := hcA' j ss'[j] (List.getElem?_eq_getElem lA')
            have xB := hcB j ts[j] (List.getElem?_eq_getElem lB)
            have xB' := hcB' j ts'[j] (List.getElem?_eq_getElem lB')
            obtain ⟨f, hf1, hf2⟩ := readFs_at hyF'.out lB
            obtain ⟨g, hg1, hg2⟩ := readFs_at hzF'.out lB'
            have i1 : (j : Int) < (n : Int) := by omega
            have i1' : (j : Int) < (n' : Int) := by omega
            have i2 : (j : Int) < (m : Int) := by omega
            have i2' : (j : Int) < (m' : Int) := by omega
            have i0 : (0 : Int) ≤ (j : Int) := by omega
            have hdif : Hid (ss[j] ≠ ss'[j] → y.ns ≠ z.ns) := Lib.hid (fun hne e => by
              rw [hyN'.out, hzN'.out] at e
              have h1 := congrArg (fun l => l[j]?) e
              simp only [List.getElem?_map, List.getElem?_eq_getElem lA, List.getElem?_eq_getElem lA', Option.map_some, Option.some.injEq] at h1
              exact hne (by cases h3 : ss[j]; cases h4 : ss'[j]; rw [h3, h4] at h1; simp only [ByteArray.mk.injEq]; exact Array.toList_inj.1 h1))
            have hsam : Hid (ss[j] = ss'[j] → ss.take (j + 1) = ss'.take (j + 1)) := Lib.hid (fun he => by
              rw [List.take_succ_eq_append_getElem lA, List.take_succ_eq_append_getElem lA', hnames'.out, he])
            have hstep := Lib.hid (instAll_step (m := []) hfl.out hf1 hg1)
            have hF1 := Lib.hid (fun W => l1F_some hf2 W)
            have hF2 := Lib.hid (fun W => l1F_some hg2 W)
            have hnl := instAll_nd hM1 (by simp)
            have hml : M1.length + f.size ≤ 90000000 := by
              have h60 : ∀ q ∈ y.fs, q.size ≤ 60 := fun q hq => (readFs_ok hyF'.out q hq).2
              have hsum : ∀ l : List F, (∀ q ∈ l, q.size ≤ 60) → (l.map F.size).sum ≤ 60 * l.length := fun l hl => by
                induction l with
                | nil => simp
                | cons a l ih => rw [List.map_cons, List.sum_cons, List.length_cons]; have := hl a (by simp); have := ih (fun q hq => hl q (by simp [hq])); omega
              have h1 := hsum (y.fs.take j) (fun q hq => h60 q (List.mem_of_mem_take hq))
              have h2 := hnl.2
              rw [List.length_take] at h1
              have h3 := readF_size hf2
              simp only [List.length_nil] at h2
              omega
            have hnd := Lib.hid hnl.1
            have hokf := readF_ok hf2
            have hokg := readF_ok hg2
            have hg60 := readF_size hg2
            have hMR1 := Lib.hid (hMR'.out M1 hM1)
            have hM1' := Lib.hid hM1
            generalize ss[j] = t1 at *
            generalize ss'[j] = t2 at *
            generalize ts[j] = u1 at *
            generalize ts'[j] = u2 at *
            clear hcA hcA' hcB hcB' hf1 hf2 hg1 hg2 hnl hM1 hnn hnm1 hnm2
            go_upto_region 9 with fail
            by_cases hte : t1 = t2
            · have hteb : (t1.toList == t2.toList) = true := by rw [hte]; simp
              have hsm := Lib.hid (hsam.out hte)
              clear hte hsam hdif
              go_quiet (fail)
              go_wp2_with fail
              refine Calls.mono (hF1.out _) ?_
              rintro e w1 ⟨a3, p3, l3, k3, rfl, hb1, tc1⟩
              have hb01 := Lib.hid (below_step (Below.drewN hb3'.out _) (Nat.le_refl _) hb1)
              have hb11 := Lib.hid (below_step (Below.drewN (Below.refl wr.heap.size wr) _) (Nat.le_refl _) hb1)
              have xB1 := (hb11.out.cell (p := ⟨bB', oB' + j, none⟩) hbB').trans xB'
              have tc1' := Lib.hid tc1
              have hbB1 := Nat.lt_of_lt_of_le hbB' hb11.out.size
              obtain ⟨a0, a1, a2, e0, e1, e2, esz1⟩ := hK.out w1 hb01.out
              clear hb1 tc1
              go_wp2_with fail
              refine Calls.mono (hF2.out _) ?_
              rintro e w2 ⟨a4, p4, l4, k4, rfl, hb2, tc2⟩
              obtain ⟨x0, x1, x2, -, -⟩ := two_cells ((hb2.block w1.heap.size (by simp)).trans (heap_alloc_new w1 _))
              have hb12 := Lib.hid (below_step (bb_alloc (Below.refl w1.heap.size w1) _) (Nat.le_refl _) hb2)
              have tc2' := Lib.hid tc2
              clear hb2 tc2
              go_wp2_with fail
              refine Calls.mono (mt_any f g M1 _ _ a3 p3 l3 k3 a4 p4 l4 k4 u v hokf hokg (by omega) hml hnd.out (tc1'.out.here (fun g hg => hg.2) (bb_alloc hb12.out _)) (tc2'.out.here (fun g hg => hg.2) (bb_alloc (Below.refl _ _) _)) (fun _ h => h) (hMR1.out.below (bb_alloc (below_step hb11.out (Nat.le_refl _) hb12.out) _))) ?_
              rintro e w3 ⟨hb4, u4, v4, rfl, hm4⟩
              have hm4' := Lib.hid hm4
              have hb04 := Lib.hid (below_step (bb_alloc (below_step hb01.out (Nat.le_refl _) hb12.out) _) (Nat.le_refl _) hb4)
              clear hb4 hm4
              go_wp2_with fail
              go_roundw
              case rel => exact ⟨j + 1, (inst f g M1).isSome, u4, v4, rfl, rfl, by omega, by go_num, rfl, by rw [hstep.out, hM1'.out]; rfl, fun M2 h => by rw [hstep.out, hM1'.out] at h; exact hm4'.out M2 h, hsm.out, hb04.out⟩
              case measure => simp [intOf]; omega
            · have hteb : (t1.toList == t2.toList) = false := by
                rw [beq_eq_false_iff_ne]; intro e; apply hte
                rw [Lib.toList_data, Lib.toList_data] at e
                cases t1; cases t2; simp only [ByteArray.mk.injEq]; exact Array.toList_inj.1 e
              have hr := Lib.hid (hdif.out hte)
              clear hte
              go_quiet (fail)
              go_wp2_with fail
              go_ret
              exact ⟨by rw [hout.out, decide_eq_false hr.out]; rfl, Below.drewN hbww.out _⟩
        · have e : j = n' := by omega
          subst e
          obtain ⟨hnn, hnm1, hnm2⟩ := hnm.out
          have ly : y.fs.take j = y.fs := List.take_of_length_le (by rw [readFs_length hyF'.out]; have := hlb.out; omega)
          have lz : z.fs.take j = z.fs := List.take_of_length_le (by rw [readFs_length hzF'.out]; have := hlb'.out; omega)
          have hss : ss = ss' := by
            have h := hnames'.out
            rw [List.take_of_length_le (by have := hla.out; omega), List.take_of_length_le (by have := hla'.out; omega)] at h
            exact h
          have hns : y.ns = z.ns := by rw [hyN'.out, hzN'.out, hss]
          have hbb2 := Lib.hid (show bb = (instAll y.fs z.fs []).isSome from by have h := hbb'.out; rw [ly, lz] at h; exact h)
          have hMR2 := Lib.hid (show ∀ M1, instAll y.fs z.fs [] = some M1 → MR wr M1 u v from by have h := hMR'.out; rw [ly, lz] at h; exact h)
          have hout2 : Hid (instB (readTy ss ts s) (readTy ss' ts' s') = instTy y z) := Lib.hid (by rw [hout.out, decide_eq_true hns]; rfl)
          clear ly lz hss hns hnn hnm1 hnm2 hout hbb' hMR' hnames'
          cases bb
          · have hno : Hid (instTy y z = false) := Lib.hid (by
              have h := hbb2.out
              unfold instTy
              cases hi : instAll y.fs z.fs [] with
              | none => rfl
              | some m => rw [hi] at h; cases h)
            go_wp2_with fail
            go_ret
            exact ⟨by rw [hout2.out, hno.out]; rfl, hbww.out⟩
          · obtain ⟨M1, hM1⟩ : ∃ M1, instAll y.fs z.fs [] = some M1 := by
              have := hbb2.out
              cases h : instAll y.fs z.fs [] with
              | none => rw [h] at this; cases this
              | some m => exact ⟨m, rfl⟩
            have hty : Hid (instTy y z = instW y.wh z.wh M1) := Lib.hid (by unfold instTy; rw [hM1])
            have he := hemp'.out
            rw [beq_iff_eq, decide_eq_decide] at he
            by_cases hs' : s'.size = 0
            · have hsb' : (s'.toList == []) = true := by rw [Lib.toList_data, beq_iff_eq]; rw [ba_size] at hs'; exact List.eq_nil_of_length_eq_zero hs'
              have hres : Hid (instTy y z = true) := Lib.hid (by
                have h1 := hyW'.out
                have h2 := hzW'.out
                rw [readWh_empty (he.2 hs')] at h1
                rw [readWh_empty hs'] at h2
                injection h1 with h1
                injection h2 with h2
                rw [hty.out, ← h1, ← h2]; rfl)
              clear he hs' hM1
              go_wp2_with fail
              go_ret
              exact ⟨by rw [hout2.out, hres.out]; rfl, hbww.out⟩
            · have hsb' : (s'.toList == []) = false := by rw [Lib.toList_data, beq_eq_false_iff_ne]; intro e; rw [ba_size, e] at hs'; exact hs' rfl
              have hs : s.size ≠ 0 := fun h => hs' (he.1 h)
              obtain ⟨f, hf2, hyf⟩ : ∃ f, readF s.data.toList = some f ∧ y.wh = some f := by
                have h1 := hyW'.out
                rw [readWh_full hs] at h1
                cases hr : readF s.data.toList with
                | none => rw [hr] at h1; cases h1
                | some f => rw [hr] at h1; injection h1 with h1; exact ⟨f, rfl, h1.symm⟩
              obtain ⟨g, hg2, hzg⟩ : ∃ g, readF s'.data.toList = some g ∧ z.wh = some g := by
                have h1 := hzW'.out
                rw [readWh_full hs'] at h1
                cases hr : readF s'.data.toList with
                | none => rw [hr] at h1; cases h1
                | some f => rw [hr] at h1; injection h1 with h1; exact ⟨f, rfl, h1.symm⟩
              have hres : Hid (instTy y z = (inst f g M1).isSome) := Lib.hid (by rw [hty.out, hyf, hzg]; rfl)
              have hF1 := Lib.hid (fun W => l1F_some hf2 W)
              have hF2 := Lib.hid (fun W => l1F_some hg2 W)
              have hnl := instAll_nd hM1 (by simp)
              have hml : M1.length + f.size ≤ 90000000 := by
                have hsum : ∀ l : List F, (∀ q ∈ l, q.size ≤ 60) → (l.map F.size).sum ≤ 60 * l.length := fun l hl => by
                  induction l with
                  | nil => simp
                  | cons a l ih => rw [List.map_cons, List.sum_cons, List.length_cons]; have := hl a (by simp); have := ih (fun q hq => hl q (by simp [hq])); omega
                have h1 := hsum y.fs (fun q hq => (readFs_ok hyF'.out q hq).2)
                have h2 := hnl.2
                rw [readFs_length hyF'.out] at h1
                have h3 := readF_size hf2
                have h4 := hlb.out
                simp only [List.length_nil] at h2
                omega
              have hnd := Lib.hid hnl.1
              have hokf := readF_ok hf2
              have hokg := readF_ok hg2
              have hg60 := readF_size hg2
              have hMR1 := Lib.hid (hMR2.out M1 hM1)
              clear he hs hs' hM1 hf2 hg2 hyf hzg hnl
              go_wp2_with fail
              refine Calls.mono (hF1.out _) ?_
              rintro e w1 ⟨a3, p3, l3, k3, rfl, hb1, tc1⟩
              have hb01 := Lib.hid (below_step hb3'.out (Nat.le_refl _) hb1)
              have hb11 := Lib.hid hb1
              have tc1' := Lib.hid tc1
              obtain ⟨a0, a1, a2, e0, e1, e2, esz1⟩ := hK.out w1 hb01.out
              clear hb1 tc1
              go_wp2_with fail
              refine Calls.mono (hF2.out _) ?_
              rintro e w2 ⟨a4, p4, l4, k4, rfl, hb2, tc2⟩
              obtain ⟨x0, x1, x2, -, -⟩ := two_cells ((hb2.block w1.heap.size (by simp)).trans (heap_alloc_new w1 _))
              have hb12 := Lib.hid (below_step (bb_alloc (Below.refl w1.heap.size w1) _) (Nat.le_refl _) hb2)
              have tc2' := Lib.hid tc2
              clear hb2 tc2
              go_wp2_with fail
              refine Calls.mono (mt_any f g M1 _ _ a3 p3 l3 k3 a4 p4 l4 k4 u v hokf hokg (by omega) hml hnd.out (tc1'.out.here (fun g hg => hg.2) (bb_alloc hb12.out _)) (tc2'.out.here (fun g hg => hg.2) (bb_alloc (Below.refl _ _) _)) (fun _ h => h) (hMR1.out.below (bb_alloc (below_step hb11.out (Nat.le_refl _) hb12.out) _))) ?_
              rintro e w3 ⟨hb4, u4, v4, rfl, hm4⟩
              have hb04 := Lib.hid (below_step (bb_alloc (below_step hb01.out (Nat.le_refl _) hb12.out) _) (Nat.le_refl _) hb4)
              clear hb4 hm4
              go_wp2_with fail
              go_ret
              exact ⟨by rw [hout2.out, hres.out]; rfl, below_step hb0'.out (Nat.le_refl _) hb04.out⟩

end Go.Proofs.Ytdbdcfijeeelkaa
