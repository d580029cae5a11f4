/- The laws FnPlain and FnSourceFree as calls. -/
import Derived.Test.YtchkmdagbjbcjaaGreatDoorDrawS
import Derived.Test.YtchkmdagbjbcjaaGreatDoorSameT
import Derived.Test.YtchkmdagbjbcjaaGreatDoorSrcM
import Derived.Test.YtchkmdagbjbcjaaGreatDoorSrcLaw
import Derived.Test.YtchkmdagbjbcjaaGreatDoorSrcFL
import Derived.Test.YtchkmdagbjbcjaaGreatDoorFrG
import Derived.Test.YtchkmdagbjbcjaaGreatDoorKindLaw
import Derived.Test.YtchkmdagbjbcjaaGreatDoorArgB
namespace Go.Proofs.YtchkmdagbjbcjaaGreatDoor
set_option linter.unusedVariables false
open Go.RowKit
set_option maxRecDepth 100000

theorem RowS.takeN {w : World} {A : Option Addr} {n : Nat} {ss : List ByteArray} (h : RowS w A n ss) {j : Nat} (hj : j ≤ n) : RowS w A j (ss.take j) := by
  refine ⟨by rw [List.length_take]; have := h.1; omega, fun h0 => ?_⟩
  obtain ⟨b, o, e, hlt, hc⟩ := h.2 (by omega)
  refine ⟨b, o, e, hlt, fun i s hi => hc i s ?_⟩
  rw [List.getElem?_take] at hi
  split at hi
  · exact hi
  · cases hi

theorem own_capS {w : World} {base : Nat} {E : TypeId} {A : Option Addr} {n c : Nat} {xs : List Value} (h : w.ownsRow base E 1 (.slice A n c) n xs) : n ≤ c := by
  obtain ⟨_, ⟨h1, h2⟩ | ⟨g, cap, cur, hv, _, _, h1, _⟩⟩ := h
  · omega
  · injection hv with e1 e2 e3; omega
theorem ba_back (t : ByteArray) : (⟨t.data.toList.toArray⟩ : ByteArray) = t := by cases t; rfl

/-- Of the free names of a source term that is read: each stands once, and in a function around it its variable no more. -/
theorem free_facts {s : Bs} {m : Src} (h : readSrc s = some m) (hs : s.length ≤ 200) {i : Nat} {t : ByteArray} (ht : (srcFreeO (some m))[i]? = some t) :
    isIn t ((srcFreeO (some m)).take i) = false ∧ isName t.data.toList = true ∧
    (isVar t.data.toList = true → (readSrc ([40, 108, 97, 109, 32] ++ (t.data.toList ++ (32 :: (s ++ [41]))))).isSome = true →
      isIn t (srcFreeO (readSrc ([40, 108, 97, 109, 32] ++ (t.data.toList ++ (32 :: (s ++ [41])))))) = false ∧ (srcFreeO (readSrc ([40, 108, 97, 109, 32] ++ (t.data.toList ++ (32 :: (s ++ [41])))))).length + 1 = (srcFreeO (some m)).length) := by
  have hok := (readSrc_ok h).1
  have hq : srcFreeO (some m) = (m.uses.foldl addN []).map bs' := rfl
  rw [hq] at ht ⊢
  rw [List.getElem?_map] at ht
  cases hx : (m.uses.foldl addN [])[i]? with
  | none => rw [hx] at ht; cases ht
  | some x =>
    rw [hx] at ht
    have ht' : bs' x = t := by injection ht
    subst ht'
    have hxm := List.mem_of_getElem? hx
    have hd : (bs' x).data.toList = x := rfl
    rw [hd]
    have hnd := foldl_nodup m.uses [] List.nodup_nil
    refine ⟨?_, ?_, fun hv hsome => ?_⟩
    · rw [← List.map_take]
      refine (isIn_bs x _).trans ?_
      rw [decide_eq_false_iff_not]
      intro hm
      obtain ⟨j, hj, e⟩ := List.mem_iff_getElem.1 hm
      rw [List.length_take] at hj
      obtain ⟨hil, hie⟩ := List.getElem?_eq_some_iff.1 hx
      rw [List.getElem_take] at e
      exact (List.pairwise_iff_getElem.1 hnd) j i (by omega) hil (by omega) (e.trans hie.symm)
    · rw [foldl_mem] at hxm
      rcases hxm with hxm | hxm
      · cases hxm
      · exact Src.uses_name hok x hxm
    · rw [readSrc_lam h hs hv] at hsome ⊢
      by_cases hz : m.size + 2 ≤ 80
      · rw [if_pos hz]
        have hu : srcFreeO (some (.nb lamB x m)) = ((minus m.uses x).foldl addN []).map bs' := by
          show ((Src.nb lamB x m).uses.foldl addN []).map bs' = _
          rw [Src.uses, if_neg (by decide)]
        rw [hu]
        refine ⟨(isIn_bs x _).trans (decide_eq_false (free_minus_not x _)), ?_⟩
        rw [List.length_map, List.length_map]
        exact free_minus_len hxm
      · rw [if_neg hz] at hsome
        cases hsome

theorem free_short (o : Option Src) (h : ∀ m, o = some m → m.size ≤ 80) : (srcFreeO o).length ≤ 80 := by
  cases o with
  | none => simp [srcFreeO]
  | some m =>
    have h1 := foldl_len m.uses []
    have h2 := m.uses_len
    have h3 := h m rfl
    simp [srcFreeO] at *
    omega
theorem var_text {t : ByteArray} (h : isVar t.data.toList = true) : (⟨(kindText (readP t.data.toList)).toArray⟩ : ByteArray) = ⟨#[116, 101, 114, 109]⟩ := by
  obtain ⟨h1, h2⟩ := kind_of_var h
  rw [h1]
  show (⟨((P.nm t.data.toList).kind.name).toArray⟩ : ByteArray) = _
  rw [h2]; rfl
theorem cov_text {t : ByteArray} (h : isName t.data.toList = true) (hv : isVar t.data.toList = false) : (⟨(kindText (readP t.data.toList)).toArray⟩ : ByteArray) = ⟨#[99, 111, 116, 101, 114, 109]⟩ := by
  obtain ⟨h1, h2⟩ := kind_of_cov h hv
  rw [h1]
  show (⟨((P.nm t.data.toList).kind.name).toArray⟩ : ByteArray) = _
  rw [h2]; rfl
theorem lamW_eq (t s : ByteArray) : ((((⟨#[40, 108, 97, 109, 32]⟩ ++ t) ++ ⟨#[32]⟩) ++ s) ++ ⟨#[41]⟩ : ByteArray).data.toList = [40, 108, 97, 109, 32] ++ (t.data.toList ++ (32 :: (s.data.toList ++ [41]))) := by
  simp [ByteArray.data_append, Array.toList_append]

set_option maxHeartbeats 1000000 in
theorem lawFnPlain (A : Option Addr) (n c : Nat) (w : World) (hr : ByteRow w A n) (hc : n ≤ c) (hn : n ≤ maxLen) (hg0 : w.cell? ⟨0, 0, none⟩ = some (rty 67)) : Calls Tryz.prog 4 #[.slice A n c] w fun e w' => e = .returned (.bool true) ∧ Below w.heap.size w w' := by
  have h0w : 0 < w.heap.size := World.lt_of_cell (a := ⟨0, 0, none⟩) hg0
  have hd := Lib.hid (drawSPlain_any A n c w hr hc)
  have hI := Lib.hid (fun s W (hW : Below w.heap.size w W) => implSP_any s W ((hW.cell (p := ⟨0, 0, none⟩) h0w).trans hg0))
  have hF := Lib.hid (fun s W (hW : Below w.heap.size w W) => implSF_any s W ((hW.cell (p := ⟨0, 0, none⟩) h0w).trans hg0))
  unfold maxLen at hn
  clear hr hg0
  by_cases hlen : 1048576 < n
  · have hlen' : (1048576 : Int) < (n : Int) := by omega
    go_enter Tryz.func4, Tryz.ntmps4
    go_wp2_with fail
    go_ret
    exact ⟨rfl, Below.refl _ _⟩
  · have hlen' : ¬ (1048576 : Int) < (n : Int) := by omega
    go_enter Tryz.func4, Tryz.ntmps4
    go_wp2_with fail
    refine Calls.mono hd.out ?_
    rintro e w1 ⟨s, hs, rfl, hb1⟩
    have hb1' := Lib.hid hb1
    have h1 := Lib.hid (fun W hW => hI.out s W hW)
    have h2 := Lib.hid (fun W => specSP_any s W)
    have h3 := Lib.hid (fun W hW => hF.out s W hW)
    clear hb1 hI hF
    cases ho : srcPlain (readSrc s.data.toList) with
    | false =>
      rw [ho] at h1 h2
      clear ho h3
      go_wp2_with fail
      refine Calls.mono (h1.out _ hb1'.out) ?_
      rintro e w2 ⟨rfl, hb2⟩
      go_wp2_with fail
      refine Calls.mono (h2.out _) ?_
      rintro e w3 ⟨rfl, hb3⟩
      go_wp2_with fail
      go_ret
      exact ⟨rfl, below_step (below_step hb1'.out (Nat.le_refl _) hb2) (Nat.le_refl _) hb3⟩
    | true =>
      rw [ho] at h1 h2
      cases hrd : readSrc s.data.toList with
      | none => rw [hrd] at ho; cases ho
      | some m =>
        rw [hrd] at ho h3
        have hok := (readSrc_ok hrd).1
        have hsh := free_short (some m) (fun m' e => by injection e with e; subst e; exact (readSrc_ok hrd).2.1)
        have hall : Hid (∀ (i : Nat) (t : ByteArray), (srcFreeO (some m))[i]? = some t → isVar t.data.toList = true) := fun i t ht => by
          have hm := List.mem_of_getElem? ht
          have hm' : t ∈ (m.uses.foldl addN []).map bs' := hm
          obtain ⟨x, hx, rfl⟩ := List.mem_map.1 hm'
          rw [foldl_mem] at hx
          rcases hx with hx | hx
          · cases hx
          · exact plain_var hok ho x hx
        rw [show (some m).isSome = true from rfl] at h3
        generalize srcFreeO (some m) = L at *
        clear hrd hok ho
        go_wp2_with fail
        refine Calls.mono (h1.out _ hb1'.out) ?_
        rintro e w2 ⟨rfl, hb2⟩
        have hb12 := Lib.hid (below_step hb1'.out (Nat.le_refl _) hb2)
        go_wp2_with fail
        refine Calls.mono (h2.out _) ?_
        rintro e w3 ⟨rfl, hb3⟩
        have hb13 := Lib.hid (below_step hb12.out (Nat.le_refl _) hb3)
        clear hb2 hb3
        go_wp2_with fail
        refine Calls.mono (h3.out _ hb13.out) ?_
        rintro e w4 ⟨A4, c4, rfl, own4, hb4⟩
        have row4 := Lib.hid (RowS.of_own own4)
        have hb14 := Lib.hid (below_step hb13.out (Nat.le_refl _) hb4)
        clear own4 hb4
        by_cases h0 : L.length = 0
        · rw [h0]
          clear row4
          go_wp2_with fail
          go_loop [8] (fun i => i = .int .i64 0) (fun _ => 0)
          case atStart => rfl
          case round =>
            subst hrel
            go_wp2_with fail
            go_ret
            exact ⟨rfl, hb14.out⟩
        · obtain ⟨b, o, rfl, hblt, hcc⟩ := row4.out.2 (by omega)
          have hcc' := Lib.hid hcc
          clear row4 hcc
          go_wp2_with fail
          go_loopw [8] (fun i wr => ∃ j : Nat, j ≤ L.length ∧ i = .int .i64 j ∧ Below w4.heap.size w4 wr) (fun i _ => L.length - (intOf i).toNat)
          case atStart => exact ⟨0, Nat.zero_le _, rfl, Below.refl _ _⟩
          case round =>
            obtain ⟨j, hj, rfl, hbel⟩ := hrel
            have hbel' := Lib.hid hbel
            by_cases hlt : j < L.length
            · have hg := List.getElem?_eq_getElem hlt
              have x1 := (hbel.cell (p := ⟨b, o + j, none⟩) hblt).trans (hcc'.out j L[j] hg)
              have hv := var_text (hall.out j _ hg)
              generalize L[j] = t at *
              have hK : Hid (∀ W, Calls Tryz.prog 10 #[.string t] W fun e w' => e = .returned (.string ⟨#[116, 101, 114, 109]⟩) ∧ Below W.heap.size W w') := fun W => by
                have h := implKind_any t W
                rw [hv] at h
                exact h
              have i1 : (j : Int) < (L.length : Int) := by omega
              have i0 : (0 : Int) ≤ (j : Int) := by omega
              clear hbel hv hg
              go_wp2_with fail
              refine Calls.mono (hK.out _) ?_
              rintro e w5 ⟨rfl, hb5⟩
              go_wp2_with fail
              go_roundw
              case rel => exact ⟨j + 1, by omega, by go_num, below_step hbel'.out (Nat.le_refl _) hb5⟩
              case measure => simp [intOf]; omega
            · have i1 : ¬ (j : Int) < (L.length : Int) := by omega
              clear hbel
              go_wp2_with fail
              go_ret
              exact ⟨rfl, below_step hb14.out (Nat.le_refl _) hbel'.out⟩

set_option maxHeartbeats 1000000 in
theorem lawFnSourceFree (A : Option Addr) (n c : Nat) (w : World) (hr : ByteRow w A n) (hc : n ≤ c) (hn : n ≤ maxLen) (hg0 : w.cell? ⟨0, 0, none⟩ = some (rty 67)) : Calls Tryz.prog 3 #[.slice A n c] w fun e w' => e = .returned (.bool true) ∧ Below w.heap.size w w' := by
  have h0w : 0 < w.heap.size := World.lt_of_cell (a := ⟨0, 0, none⟩) hg0
  have hd := Lib.hid (drawSFree_any A n c w hr hc)
  have hF := Lib.hid (fun s W (hW : Below w.heap.size w W) => implSF_any s W ((hW.cell (p := ⟨0, 0, none⟩) h0w).trans hg0))
  unfold maxLen at hn
  clear hr hg0
  by_cases hlen : 1048576 < n
  · have hlen' : (1048576 : Int) < (n : Int) := by omega
    go_enter Tryz.func3, Tryz.ntmps3
    go_wp2_with fail
    go_ret
    exact ⟨rfl, Below.refl _ _⟩
  · have hlen' : ¬ (1048576 : Int) < (n : Int) := by omega
    go_enter Tryz.func3, Tryz.ntmps3
    go_wp2_with fail
    refine Calls.mono hd.out ?_
    rintro e w1 ⟨s, hs, rfl, hb1⟩
    have hb1' := Lib.hid hb1
    have h1 := Lib.hid (fun W hW => hF.out s W hW)
    have h2 := Lib.hid (fun W => specSF_any s W)
    clear hb1
    cases hrd : readSrc s.data.toList with
    | none =>
      rw [hrd, show srcFreeO none = [] from rfl, show (none : Option Src).isSome = false from rfl] at h1 h2
      clear hrd
      go_wp2_with fail
      refine Calls.mono (h1.out _ hb1'.out) ?_
      rintro e w2 ⟨A2, c2, rfl, own2, hb2⟩
      have hb12 := Lib.hid (below_step hb1'.out (Nat.le_refl _) hb2)
      have row2 := Lib.hid (RowS.of_own own2)
      clear own2 hb2
      go_wp2_with fail
      refine Calls.mono (h2.out _) ?_
      rintro e w3 ⟨A3, c3, rfl, own3, hb3⟩
      have hb13 := Lib.hid (below_step hb12.out (Nat.le_refl _) hb3)
      have row3 := Lib.hid (RowS.of_own own3)
      have row2' := Lib.hid (row2.out.below hb3)
      clear own3 hb3
      have hS := Lib.hid (fun W (hW : Below w3.heap.size w3 W) => same_any A2 A3 ([] : List ByteArray).length ([] : List ByteArray).length c2 c3 [] [] W (row2'.out.below hW) (row3.out.below hW) (by simp))
      rw [show decide (([] : List ByteArray) = []) = true from by simp] at hS
      go_wp2_with fail
      refine Calls.mono (hS.out _ (Below.refl _ _)) ?_
      rintro e w4 ⟨rfl, hb4⟩
      go_wp2_with fail
      refine Calls.mono (hS.out _ hb4) ?_
      rintro e w5 ⟨rfl, hb5⟩
      go_wp2_with fail
      go_ret
      exact ⟨rfl, below_step (below_step hb13.out (Nat.le_refl _) hb4) (Nat.le_refl _) hb5⟩
    | some m =>
      rw [hrd, show (some m).isSome = true from rfl] at h1 h2
      have hff := Lib.hid (fun (i : Nat) (t : ByteArray) (ht : (srcFreeO (some m))[i]? = some t) => free_facts hrd (by rw [← ba_size]; omega) ht)
      have hsh := free_short (some m) (fun m' e => by injection e with e; subst e; exact (readSrc_ok hrd).2.1)
      have hsh2 := Lib.hid (fun s' => free_short (readSrc s') (fun m' e => (readSrc_ok e).2.1))
      generalize srcFreeO (some m) = L at *
      clear hrd
      go_wp2_with fail
      refine Calls.mono (h1.out _ hb1'.out) ?_
      rintro e w2 ⟨A2, c2, rfl, own2, hb2⟩
      have hb12 := Lib.hid (below_step hb1'.out (Nat.le_refl _) hb2)
      have row2 := Lib.hid (RowS.of_own own2)
      have hcap2 := own_capS own2
      clear own2 hb2
      go_wp2_with fail
      refine Calls.mono (h2.out _) ?_
      rintro e w3 ⟨A3, c3, rfl, own3, hb3⟩
      have hb13 := Lib.hid (below_step hb12.out (Nat.le_refl _) hb3)
      have row3 := Lib.hid (RowS.of_own own3)
      have row2' := Lib.hid (row2.out.below hb3)
      clear own3 hb3
      have hS := Lib.hid (same_any A2 A3 L.length L.length c2 c3 L L w3 row2'.out row3.out (by omega))
      rw [show decide (L = L) = true from by simp] at hS
      go_wp2_with fail
      refine Calls.mono hS.out ?_
      rintro e w4 ⟨rfl, hb4⟩
      have hb14 := Lib.hid (below_step hb13.out (Nat.le_refl _) hb4)
      have row4 := Lib.hid (row2'.out.below hb4)
      clear hb4
      by_cases h0 : L.length = 0
      · rw [h0]
        clear row4 hS row2' row3 row2
        go_wp2_with fail
        go_loop [8] (fun i => i = .int .i64 0) (fun _ => 0)
        case atStart => rfl
        case round =>
          subst hrel
          go_wp2_with fail
          go_ret
          exact ⟨rfl, hb14.out⟩
      · obtain ⟨b, o, rfl, hblt, hcc⟩ := row4.out.2 (by omega)
        have hcc' := Lib.hid hcc
        clear hcc hS row2' row3 row2
        go_wp2_with fail
        go_loopw [8] (fun i wr => ∃ j : Nat, j ≤ L.length ∧ i = .int .i64 j ∧ Below w4.heap.size w4 wr) (fun i _ => L.length - (intOf i).toNat)
        case atStart => exact ⟨0, Nat.zero_le _, rfl, Below.refl _ _⟩
        case round =>
          obtain ⟨j, hj, rfl, hbel⟩ := hrel
          have hbel' := Lib.hid hbel
          by_cases hlt : j < L.length
          · have hg := List.getElem?_eq_getElem hlt
            have x1 := (hbel.cell (p := ⟨b, o + j, none⟩) hblt).trans (hcc'.out j L[j] hg)
            obtain ⟨f1, f2, f3⟩ := hff.out j _ hg
            have hS : Hid (∀ W', Below w4.heap.size w4 W' → W'.cell? ⟨b, o + j, none⟩ = some (.string L[j])) := fun W' h => (h.cell (p := ⟨b, o + j, none⟩) hblt).trans (hcc'.out j _ hg)
            generalize L[j] = t at *
            have hH := Lib.hid (fun W (h : Below w4.heap.size w4 W) => hasT_any (some ⟨b, o, none⟩) j c2 (L.take j) t W ((row4.out.below h).takeN hj) (by omega))
            rw [f1] at hH
            have i1 : (j : Int) < (L.length : Int) := by omega
            have i0 : (0 : Int) ≤ (j : Int) := by omega
            have i2 : (j : Int) ≤ (c2 : Int) := by omega
            clear hbel f1 hg
            cases hv : isVar t.data.toList with
            | true =>
              have hK : Hid (∀ W, Calls Tryz.prog 10 #[.string t] W fun e w' => e = .returned (.string ⟨#[116, 101, 114, 109]⟩) ∧ Below W.heap.size W w') := fun W => by
                have h := implKind_any t W
                rw [var_text hv] at h
                exact h
              have hxin := isName_in f2
              have htl : t.size ≤ 4 := by rw [ba_size]; exact hxin.1
              have f3' := f3 hv
              clear f3 hxin f2 hv
              rw [← lamW_eq t s] at f3'
              obtain ⟨S, hSd⟩ : ∃ S : ByteArray, S = ((((⟨#[40, 108, 97, 109, 32]⟩ ++ t) ++ ⟨#[32]⟩) ++ s) ++ ⟨#[41]⟩ : ByteArray) := ⟨_, rfl⟩
              rw [← hSd] at f3'
              have h5 := Lib.hid (fun W hW => hF.out S W hW)
              have hL2 := hsh2.out S.data.toList
              have hSd' := Lib.hid hSd
              clear hSd
              generalize srcFreeO (readSrc S.data.toList) = L2 at *
              generalize (readSrc S.data.toList).isSome = bb at *
              have f3'' := Lib.hid f3'
              clear f3'
              go_wp2_with fail
              go_region_held3 (fun W' => W'.cell? ⟨b, o + j, none⟩ = some (.string t))
                (first | exact hS.out _ hbel'.out.drew)
                (first | (go_at_call 9; refine Calls.mono (hH.out _ hbel'.out.drew) ?_; rintro e w5 ⟨rfl, rfl⟩))
              go_wp2_with fail
              refine Calls.mono (hK.out _) ?_
              rintro e w6 ⟨rfl, hb6⟩
              have hb16 := Lib.hid (below_step (below_step hb14.out (Nat.le_refl _) hbel'.out.drew) (Nat.le_refl _) hb6)
              have x6 := hS.out _ (below_step hbel'.out.drew (Nat.le_refl _) hb6)
              go_wp2_with fail
              rw [← hSd'.out]
              refine Calls.mono (h5.out _ hb16.out) ?_
              rintro e w7 ⟨A7, c7, rfl, own7, hb7⟩
              have hb17 := Lib.hid (below_step hb16.out (Nat.le_refl _) hb7)
              have x7 := hS.out _ (below_step (below_step hbel'.out.drew (Nat.le_refl _) hb6) (Nat.le_refl _) hb7)
              have row7 := Lib.hid (RowS.of_own own7)
              clear own7 hb7
              cases bb with
              | false =>
                go_wp2_with fail
                go_ret
                exact ⟨rfl, hb17.out⟩
              | true =>
                obtain ⟨q1, q2⟩ := f3''.out rfl
                have hH7 := Lib.hid (hasT_any A7 L2.length c7 L2 t w7 row7.out (by omega))
                rw [q1] at hH7
                have q3 : ((L2.length : Int) == (L.length : Int) - 1) = true := by rw [beq_iff_eq]; omega
                clear q1
                go_wp2_with fail
                refine Calls.mono hH7.out ?_
                rintro e w8 ⟨rfl, rfl⟩
                go_wp2_with fail
                go_ret
                exact ⟨rfl, hb17.out⟩
            | false =>
              have hK : Hid (∀ W, Calls Tryz.prog 10 #[.string t] W fun e w' => e = .returned (.string ⟨#[99, 111, 116, 101, 114, 109]⟩) ∧ Below W.heap.size W w') := fun W => by
                have h := implKind_any t W
                rw [cov_text f2 hv] at h
                exact h
              clear f3 f2 hv
              go_wp2_with fail
              go_region_held3 (fun W' => W'.cell? ⟨b, o + j, none⟩ = some (.string t))
                (first | exact hS.out _ hbel'.out.drew)
                (first | (go_at_call 9; refine Calls.mono (hH.out _ hbel'.out.drew) ?_; rintro e w5 ⟨rfl, rfl⟩))
              go_wp2_with fail
              refine Calls.mono (hK.out _) ?_
              rintro e w6 ⟨rfl, hb6⟩
              go_wp2_with fail
              go_roundw
              case rel => exact ⟨j + 1, by omega, by go_num, below_step hbel'.out.drew (Nat.le_refl _) hb6⟩
              case measure => simp [intOf]; omega
          · have i1 : ¬ (j : Int) < (L.length : Int) := by omega
            clear hbel
            go_wp2_with fail
            go_ret
            exact ⟨rfl, below_step hb14.out (Nat.le_refl _) hbel'.out⟩

end Go.Proofs.YtchkmdagbjbcjaaGreatDoor
