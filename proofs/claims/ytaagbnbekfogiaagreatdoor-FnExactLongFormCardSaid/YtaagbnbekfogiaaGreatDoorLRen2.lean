/- spec.l2Rename. spec.l2Rename: heads with parts. -/
import Derived.Test.YtaagbnbekfogiaaGreatDoorLDec
import Derived.Test.YtaagbnbekfogiaaGreatDoorListT
import Derived.Test.YtaagbnbekfogiaaGreatDoorSpecU
import Derived.Deep.RegionHeld3
namespace Go.Proofs.YtaagbnbekfogiaaGreatDoor
set_option linter.unusedVariables false
open Go.RowKit

/-- What the names of a scope are called, the innermost one last; and what they become. -/
def olds (sc : List (Bs × Bs)) : List ByteArray := ((sc.map (·.1)).reverse).map bs'
def news (sc : List (Bs × Bs)) : List ByteArray := ((sc.map (·.2)).reverse).map bs'
theorem olds_len (sc : List (Bs × Bs)) : (olds sc).length = sc.length := by simp [olds]
theorem news_len (sc : List (Bs × Bs)) : (news sc).length = sc.length := by simp [news]
theorem olds_cons (o n : Bs) (sc : List (Bs × Bs)) : olds ((o, n) :: sc) = olds sc ++ [bs' o] := by simp [olds]
theorem news_cons (o n : Bs) (sc : List (Bs × Bs)) : news ((o, n) :: sc) = news sc ++ [bs' n] := by simp [news]
theorem olds_get {sc : List (Bs × Bs)} {k : Nat} {x : Bs × Bs} (h : sc[k]? = some x) : (olds sc)[sc.length - 1 - k]? = some (bs' x.1) := by
  obtain ⟨hk, hx⟩ := List.getElem?_eq_some_iff.1 h
  unfold olds
  rw [List.getElem?_map, List.getElem?_reverse (by simp; omega)]
  simp only [List.length_map, List.getElem?_map]
  rw [show sc.length - 1 - (sc.length - 1 - k) = k from by omega, h]; rfl
theorem news_get {sc : List (Bs × Bs)} {k : Nat} {x : Bs × Bs} (h : sc[k]? = some x) : (news sc)[sc.length - 1 - k]? = some (bs' x.2) := by
  obtain ⟨hk, hx⟩ := List.getElem?_eq_some_iff.1 h
  unfold news
  rw [List.getElem?_map, List.getElem?_reverse (by simp; omega)]
  simp only [List.length_map, List.getElem?_map]
  rw [show sc.length - 1 - (sc.length - 1 - k) = k from by omega, h]; rfl

/-- A list of names that a call is handed: a row of somebody's own, and not the namer's block. -/
structure NL (w : World) (r : Nat) (A : Option Addr) (n c : Nat) (ss : List ByteArray) : Prop where
  own : ∃ base, w.ownsRow base 9 1 (.slice A n c) n (ss.map Value.string)
  ne : ∀ k, (Value.slice A n c).ownBlock = some k → k ≠ r
theorem NL.row {w : World} {r : Nat} {A : Option Addr} {n c : Nat} {ss : List ByteArray} (h : NL w r A n c ss) : RowS w A n ss := by
  obtain ⟨base, ho⟩ := h.own
  exact RowS.of_own ho
theorem NL.grown {w w' : World} {r : Nat} {A : Option Addr} {n c : Nat} {ss : List ByteArray} (h : NL w r A n c ss) (hg : w.grownBy w' (some r)) : NL w' r A n c ss := by
  obtain ⟨base, ho⟩ := h.own
  exact ⟨⟨base, own_same ho (fun j hj => hg.block j (ho.lt j hj).2 (fun e => h.ne j hj (by injection e with e)))⟩, h.ne⟩
theorem NL.below {w w' : World} {r : Nat} {A : Option Addr} {n c : Nat} {ss : List ByteArray} (h : NL w r A n c ss) (hb : Below w.heap.size w w') : NL w' r A n c ss := h.grown (below_grown hb _)

/-- What a renaming hands back. -/
def RRet (r : Nat) (A : Option Addr) (nf cf : Nat) (free : List Bs) (t : T) (st : St) (w : World) (e : Ending) (w' : World) : Prop :=
  ∃ a p n c, e = .returned (.agg #[.string a, .slice p n c]) ∧ TC w' (New w.heap.size w') t a p n c ∧ NM w' r A nf cf free st ∧ w.grownBy w' (some r)

def lookT (sc : List (Bs × Bs)) (s : Bs) : Bs := match look sc s with
  | some n => n
  | none => s
theorem lookT_here (o n : Bs) (sc : List (Bs × Bs)) : lookT ((o, n) :: sc) o = n := by simp [lookT, look]
theorem ren_nm (free : List Bs) (sc : List (Bs × Bs)) (s : Bs) (st : St) : (P.nm s).ren free stay sc st = (.nm (lookT sc s), st) := by
  rw [P.ren, lookT]
  cases look sc s <;> rfl
theorem look_drop {sc : List (Bs × Bs)} {k : Nat} {x : Bs × Bs} (h : sc[k]? = some x) (s : Bs) : look (sc.drop k) s = if x.1 = s then some x.2 else look (sc.drop (k + 1)) s := by
  obtain ⟨hk, hx⟩ := List.getElem?_eq_some_iff.1 h
  rw [List.drop_eq_getElem_cons hk, hx]
  obtain ⟨o, n⟩ := x
  rw [look]
theorem bs_ne {s t : Bs} (h : bs' s = bs' t) : s = t := by
  have := congrArg (fun b : ByteArray => b.data.toList) h
  exact this

set_option maxRecDepth 100000 in
set_option maxHeartbeats 1000000 in
theorem lr_nm (s : Bs) (hs : s ≠ []) (sc : List (Bs × Bs)) (hsc : ∀ x ∈ sc, x.2 ≠ []) (r : Nat) (A : Option Addr) (nf cf : Nat) (free : List Bs) (st : St) (Af : Option Addr) (cfr : Nat) (At : Option Addr) (cto : Nat) (w : World)
    (h : NM w r A nf cf free st) (hf : NL w r Af sc.length cfr (olds sc)) (ht : NL w r At sc.length cto (news sc)) (hl : sc.length ≤ 100000) :
    Calls Tryz.prog 74 #[.agg #[.string ⟨s.toArray⟩, .slice none 0 0], .slice Af sc.length cfr, .slice At sc.length cto, .pointer (some ⟨r, 0, none⟩)] w (RRet r A nf cf free (.atom (lookT sc s)) st w) := by
  have he : s.isEmpty = false := by cases s with
    | nil => exact absurd rfl hs
    | cons => rfl
  obtain ⟨c, d, rfl⟩ : ∃ c d, s = c :: d := by cases s with
    | nil => exact absurd rfl hs
    | cons c d => exact ⟨c, d, rfl⟩
  have h' := Lib.hid h
  have rf := Lib.hid hf.row
  have rt := Lib.hid ht.row
  clear h hf ht
  go_enter Tryz.func74, Tryz.ntmps74
  by_cases h0 : sc.length = 0
  · have hnil : sc = [] := List.eq_nil_of_length_eq_zero h0
    subst hnil
    clear rf rt
    rw [show lookT [] (c :: d) = c :: d from rfl]
    go_wp2_with fail
    go_loop [9] (fun i => i = .int .i64 (-1)) (fun _ => 0)
    case atStart => rfl
    case round =>
      subst hrel
      go_wp2_with fail
      obtain ⟨z1, r0, r1, -, -⟩ := two_cells (second_alloc w (.cells #[.string ⟨(c :: d).toArray⟩, .slice none 0 0] 29) (.cells #[.string ⟨(c :: d).toArray⟩, .slice none 0 0] 29))
      have hbel : Below w.heap.size w ((w.alloc (.cells #[.string ⟨(c :: d).toArray⟩, .slice none 0 0] 29)).alloc (.cells #[.string ⟨(c :: d).toArray⟩, .slice none 0 0] 29)) := bb_alloc (bb_alloc (Below.refl _ _) _) _
      refine bodyPost_ret (v := .agg #[.string ⟨(c :: d).toArray⟩, .slice none 0 0]) (by simp [results, Tryz.results74, go_sem, r0, r1]) rfl ?_
      exact ⟨_, _, _, _, rfl, ⟨by simp, rfl, rfl, rfl, rfl⟩, h'.out.below hbel, below_grown hbel _⟩
  · obtain ⟨bf, of', rfl, hfl, hfc⟩ := rf.out.2 (by omega)
    obtain ⟨bt, ot, rfl, htl, htc⟩ := rt.out.2 (by omega)
    have hfc' := Lib.hid hfc
    have htc' := Lib.hid htc
    have hsc' := Lib.hid hsc
    clear hfc htc rf rt hsc
    go_wp2_with fail
    generalize hw1 : (w.alloc (.cells #[.string ⟨(c :: d).toArray⟩, .slice none 0 0] 29)).alloc (.cells #[.string ⟨#[]⟩, .slice none 0 0] 29) = w1
    have hb1 : Hid (Below w.heap.size w w1) := by subst hw1; exact bb_alloc (bb_alloc (Below.refl _ _) _) _
    have hs1 : w1.heap.size = w.heap.size + 2 := by subst hw1; simp
    have hT : Hid (w1.heap[w.heap.size]? = some (.cells #[.string ⟨(c :: d).toArray⟩, .slice none 0 0] 29)) := by subst hw1; exact first_alloc w _ _
    have hR : Hid (w1.heap[w.heap.size + 1]? = some (.cells #[.string ⟨#[]⟩, .slice none 0 0] 29)) := by subst hw1; exact second_alloc w _ _
    clear hw1
    go_loopw [9] (fun i wr => ∃ k : Nat, k ≤ sc.length ∧ i = .int .i64 ((sc.length : Int) - 1 - k) ∧ look sc (c :: d) = look (sc.drop k) (c :: d) ∧ Below w1.heap.size w1 wr) (fun i _ => ((intOf i) + 1).toNat)
    case atStart => exact ⟨0, Nat.zero_le _, by go_num, rfl, Below.refl _ _⟩
    case round =>
      obtain ⟨k, hk, rfl, hlk, hbel⟩ := hrel
      obtain ⟨z0, b0, b1, -, -⟩ := two_cells ((hbel.block w.heap.size (by omega)).trans hT.out)
      obtain ⟨z1, r0, r1, f0, f1⟩ := two_cells ((hbel.block (w.heap.size + 1) (by omega)).trans hR.out)
      have hbw := Lib.hid (below_step hb1.out (Nat.le_refl _) (hbel.mono (by omega)))
      by_cases hlt : k < sc.length
      · obtain ⟨x, hx⟩ : ∃ x, sc[k]? = some x := ⟨sc[k], List.getElem?_eq_getElem hlt⟩
        have hg1 := hfc'.out _ _ (olds_get hx)
        have hg2 := htc'.out _ _ (news_get hx)
        have x1 := (hbw.out.cell (p := ⟨bf, of' + (sc.length - 1 - k), none⟩) hfl).trans hg1
        have x2 := (hbw.out.cell (p := ⟨bt, ot + (sc.length - 1 - k), none⟩) htl).trans hg2
        have hi : (sc.length : Int) - 1 - k = ((sc.length - 1 - k : Nat) : Int) := by omega
        rw [hi]
        have hx2 := hsc'.out x (List.mem_of_getElem? hx)
        have hld := look_drop hx (c :: d)
        obtain ⟨o, m⟩ := x
        generalize hj : sc.length - 1 - k = j at *
        have i1 : (j : Int) < (sc.length : Int) := by omega
        have i0 : (0 : Int) ≤ (j : Int) := by omega
        have hlk' := Lib.hid hlk
        have hbel' := Lib.hid hbel
        have hx' := Lib.hid hx
        clear hg1 hg2 hlk hbel hx
        obtain ⟨u, hu⟩ : ∃ u : ByteArray, u = ⟨(c :: d).toArray⟩ := ⟨_, rfl⟩
        obtain ⟨v, hv⟩ : ∃ v : ByteArray, v = bs' o := ⟨_, rfl⟩
        rw [← hu] at b0
        rw [← hv] at x1
        obtain ⟨q, hq⟩ : ∃ q : ByteArray, q = bs' m := ⟨_, rfl⟩
        rw [← hq] at x2
        by_cases hst : o = c :: d
        · have hb := strNe v u true (decide_eq_true (by rw [hu, hv, hst]; rfl))
          have hq' := Lib.hid hq
          have hres : Hid (lookT sc (c :: d) = m) := by
            show lookT sc (c :: d) = m
            rw [lookT, hlk'.out, hld, if_pos hst]
          clear hld hst hq hu hv
          go_wp2_with fail
          go_region
          go_wp2_with fail
          refine bodyPost_ret (v := .agg #[.string q, .slice none 0 0]) (by simp [results, Tryz.results74, go_sem, r0, r1]) rfl ?_
          have hbel := hbw.out
          rw [hres.out]
          refine ⟨_, _, _, _, rfl, ⟨hx2, hq'.out, rfl, rfl, rfl⟩, h'.out.below (by repeat (with_reducible first | exact hbel | exact Below.refl _ _ | refine Below.drew ?_ | refine Below.drewN ?_ _ | refine Below.alloc ?_ (by first | (simp; done) | (simp; omega) | omega | (have := Below.size hbel; simp; omega) | (have := Below.size hbel; omega)) _ | refine Below.setCell ?_ (by first | (simp; done) | (simp; omega) | omega) _)), below_grown (by repeat (with_reducible first | exact hbel | exact Below.refl _ _ | refine Below.drew ?_ | refine Below.drewN ?_ _ | refine Below.alloc ?_ (by first | (simp; done) | (simp; omega) | omega | (have := Below.size hbel; simp; omega) | (have := Below.size hbel; omega)) _ | refine Below.setCell ?_ (by first | (simp; done) | (simp; omega) | omega) _)) _⟩
        · have hb := strNe v u false (decide_eq_false (fun e => hst (bs_ne (hv.symm.trans (e.trans hu)))))
          rw [if_neg hst] at hld
          have hld' := Lib.hid hld
          clear hld hst hq hu hv
          go_wp2_with fail
          go_region
          go_wp2_with fail
          go_roundw
          case rel => exact ⟨k + 1, by omega, by go_num, hlk'.out.trans hld'.out, hbel'.out.drew⟩
          case measure => simp only [intOf]; omega
      · have hkn : k = sc.length := by omega
        have hres : Hid (lookT sc (c :: d) = c :: d) := by
          show lookT sc (c :: d) = _
          rw [lookT, hlk, List.drop_of_length_le (by omega)]; rfl
        have hi : ¬ (0 : Int) ≤ (sc.length : Int) - 1 - (k : Int) := by omega
        clear hlk hbel
        go_wp2_with fail
        refine bodyPost_ret (v := .agg #[.string ⟨(c :: d).toArray⟩, .slice none 0 0]) (by simp [results, Tryz.results74, go_sem, r0, r1]) rfl ?_
        have hbel := hbw.out
        rw [hres.out]
        exact ⟨_, _, _, _, rfl, ⟨by simp, rfl, rfl, rfl, rfl⟩, h'.out.below (by repeat (with_reducible first | exact hbel | exact Below.refl _ _ | refine Below.drew ?_ | refine Below.drewN ?_ _ | refine Below.alloc ?_ (by first | (simp; done) | (simp; omega) | omega | (have := Below.size hbel; simp; omega) | (have := Below.size hbel; omega)) _ | refine Below.setCell ?_ (by first | (simp; done) | (simp; omega) | omega) _)), below_grown (by repeat (with_reducible first | exact hbel | exact Below.refl _ _ | refine Below.drew ?_ | refine Below.drewN ?_ _ | refine Below.alloc ?_ (by first | (simp; done) | (simp; omega) | omega | (have := Below.size hbel; simp; omega) | (have := Below.size hbel; omega)) _ | refine Below.setCell ?_ (by first | (simp; done) | (simp; omega) | omega) _)) _⟩

/-- The model renames a program's tree. -/
def LR (r : Nat) (A : Option Addr) (nf cf : Nat) (free : List Bs) (p : P) : Prop := ∀ (sc : List (Bs × Bs)) (st : St) (a0 : Nat) (Af : Option Addr) (cfr : Nat) (At : Option Addr) (cto : Nat) (w : World) (D : Nat → Prop) (a : ByteArray) (q : Option Addr) (n m : Nat),
  TC w D p.tree a q n m → (∀ g, D g → g < w.heap.size ∧ g ≠ r) → NM w r A nf cf free st → NL w r Af sc.length cfr (olds sc) → NL w r At sc.length cto (news sc) → (∀ x ∈ sc, x.2 ≠ []) → sc.length + p.size ≤ 90000 → StOk free st a0 → a0 + p.size + free.length ≤ 900000 →
  Calls Tryz.prog 74 #[.agg #[.string a, .slice q n m], .slice Af sc.length cfr, .slice At sc.length cto, .pointer (some ⟨r, 0, none⟩)] w (RRet r A nf cf free (p.ren free stay sc st).1.tree (p.ren free stay sc st).2 w)

theorem lrn_nm (r : Nat) (A : Option Addr) (nf cf : Nat) (free : List Bs) (s : Bs) : LR r A nf cf free (.nm s) := by
  intro sc st a0 Af cfr At cto w D a q n m ht hD hnm hf hto hsc hlen hst hbd
  rw [P.tree, TC] at ht
  obtain ⟨hs, rfl, rfl, rfl, rfl⟩ := ht
  rw [ren_nm]
  exact lr_nm s hs sc hsc r A nf cf free st Af cfr At cto w hnm hf hto (by omega)

theorem TC.grown {w w' : World} {r : Nat} {D : Nat → Prop} {t : T} {a : ByteArray} {p : Option Addr} {n c : Nat} (h : TC w D t a p n c) (hg : w.grownBy w' (some r)) (hD : ∀ g, D g → g < w.heap.size ∧ g ≠ r) : TC w' D t a p n c :=
  TC.keep (fun g h1 => hg.block g (hD g h1).1 (fun e => (hD g h1).2 (by injection e with e))) (fun _ h => h) _ _ _ _ _ h
theorem bhead_cname (v : Bool) (i : Nat) : bhead (cname v i) = if v then tmuB else muB := by
  unfold bhead; rw [cname_first]

theorem grown_set2 {w w8 : World} {r b : Nat} {u v : Value} (h : w.grownBy w8 (some r)) (hb : w.heap.size ≤ b) : w.grownBy ((w8.setCell ⟨b, 0, none⟩ u).setCell ⟨b, 1, none⟩ v) (some r) :=
  ⟨h.os, h.tape, h.output, by have := h.size; simpa [World.setCell] using this, fun k hk hne => (same_set _ _ _ _ _ (by omega)).trans (h.block k hk hne)⟩
theorem NM.of_grown {w w' : World} {r : Nat} {A : Option Addr} {nf cf : Nat} {free : List Bs} {st st' : St} (h : NM w r A nf cf free st) (hg : w.grownBy w' (some r)) (hb : w'.heap[r]? = some (.cells #[.slice A nf cf, .int .i64 st'.x, .int .i64 st'.k] 71 (0, 0))) : NM w' r A nf cf free st' :=
  ⟨hb, rowS_grown h.row hg h.ne, h.ne⟩

set_option maxRecDepth 100000 in
set_option maxHeartbeats 2000000 in
theorem lrn_bd (r : Nat) (A : Option Addr) (nf cf : Nat) (free : List Bs) (hnf : nf ≤ 90000) (s : Bs) (b : P) (H : Hid (LR r A nf cf free b)) : LR r A nf cf free (.bd s b) := by
  intro sc st a0 Af cfr At cto w D a q n m ht hD hnm hf hto hsc hlen hst hbd
  obtain ⟨x0, hx0, hcall⟩ := head_node ht (fun g hg => (hD g hg).1)
  rw [show headOf [T.atom (bhead s), .atom s, b.tree] = bhead s from rfl] at hx0
  have hxe : x0 = ⟨(bhead s).toArray⟩ := ba_of_toList hx0
  have hbind := Lib.hid (fun W => binds_any (bhead s) W)
  rw [bhead_mu, show str (bhead s) = .string ⟨(bhead s).toArray⟩ from rfl, ← hxe] at hbind
  have ht' := Lib.hid ht
  obtain ⟨rfl, hn, g, rfl, hg, hp⟩ := ht.part
  have hgw := (hD g hg).1
  have hgne := (hD g hg).2
  have hn' : n = 3 := hn
  subst hn'
  obtain ⟨a1, p1, n1, c1, x1, x2, t1⟩ := hp 1 (.atom s) rfl
  obtain ⟨a2, p2, n2, c2, y0, y1, t2⟩ := hp 2 b.tree rfl
  rw [TC] at t1
  obtain ⟨hs, rfl, rfl, rfl, rfl⟩ := t1
  simp only [Nat.one_mul, Nat.reduceMul, Nat.reduceAdd] at x1 x2 y0 y1
  have hv : (x0.toList == [116, 109, 117]) = firstIs varB s := by
    rw [hx0]; unfold bhead
    cases firstIs varB s <;> rfl
  rw [P.size] at hlen hbd
  have hrr : Hid ((P.bd s b).ren free stay sc st = (.bd (cname (firstIs varB s) (nxt free (firstIs varB s) (st.get (firstIs varB s)))) (b.ren free stay ((s, cname (firstIs varB s) (nxt free (firstIs varB s) (st.get (firstIs varB s)))) :: sc) (st.put (firstIs varB s) (nxt free (firstIs varB s) (st.get (firstIs varB s)) + 1))).1, (b.ren free stay ((s, cname (firstIs varB s) (nxt free (firstIs varB s) (st.get (firstIs varB s)))) :: sc) (st.put (firstIs varB s) (nxt free (firstIs varB s) (st.get (firstIs varB s)) + 1))).2)) := by
    show P.ren _ _ _ _ _ = _
    rw [P.ren]
  have hst2 := stOk_next hst (firstIs varB s)
  have hnx := (nxt_pot (hst (firstIs varB s))).1
  have hbn : bhead s = bhead (cname (firstIs varB s) (nxt free (firstIs varB s) (st.get (firstIs varB s)))) := by rw [bhead_cname]; rfl
  have hcn : cname (firstIs varB s) (nxt free (firstIs varB s) (st.get (firstIs varB s))) ≠ [] := by simp [cname]
  have hfresh := Lib.hid (fun W (hW : NM W r A nf cf free st) => fresh_any (firstIs varB s) r A nf cf free st W hW (by omega) (by omega))
  generalize nxt free (firstIs varB s) (st.get (firstIs varB s)) = i at *
  generalize firstIs varB s = v at *
  generalize hcv : cname v i = s' at *
  have t2' := Lib.hid t2
  have hD' := Lib.hid hD
  have hnm' := Lib.hid hnm
  have hf' := Lib.hid hf
  have hto' := Lib.hid hto
  have hcall' := Lib.hid hcall
  have hsc' := Lib.hid hsc
  have hst2' := Lib.hid hst2
  have hbn' := Lib.hid hbn
  have hx0' := Lib.hid hx0
  have hxe' := Lib.hid hxe
  have hgD := Lib.hid hg
  have hrw := hnm.cells.1
  clear hp t2 hD hn hg ht hnm hf hto hcall hsc hst hst2 hbn hx0 hxe hcv
  go_enter Tryz.func74, Tryz.ntmps74
  go_wp2_with fail
  refine Calls.mono (hcall'.out _ (by repeat (with_reducible first | exact hbel | exact Below.refl _ _ | refine Below.drew ?_ | refine Below.drewN ?_ _ | refine Below.alloc ?_ (by first | (simp; done) | (simp; omega) | omega | (have := Below.size hbel; simp; omega) | (have := Below.size hbel; omega)) _ | refine Below.setCell ?_ (by first | (simp; done) | (simp; omega) | omega) _))) ?_
  rintro e w1 ⟨rfl, hb1⟩
  have hbx := Lib.hid ((hb1.block w.heap.size (by simp; omega)).trans (first_alloc w _ _))
  have hrx := Lib.hid ((hb1.block (w.heap.size + 1) (by simp)).trans (second_alloc w _ _))
  have hw1 := Lib.hid (below_step (((Below.refl _ _).alloc (Nat.le_refl _) _).alloc (by simp) _ : Below w.heap.size w ((w.alloc _).alloc _)) (by simp) hb1)
  have hs1 : w.heap.size + 2 ≤ w1.heap.size := by have := hb1.size; simpa using this
  clear hb1
  obtain ⟨z0, k0, k1, -, -⟩ := two_cells hbx.out
  go_wp2_with (go_at_call 76; refine Calls.mono (hbind.out _) ?_; rintro e w2 ⟨rfl, rfl⟩)
  refine Calls.mono (hcall'.out _ hw1.out) ?_
  rintro e w2 ⟨rfl, hb2⟩
  have hw2 := below_step hw1.out (Nat.le_refl _) hb2
  have hs2 := hb2.size
  have hbx2 := (hb2.block w.heap.size (by omega)).trans hbx.out
  have hrx2 := (hb2.block (w.heap.size + 1) (by omega)).trans hrx.out
  have hfr := Lib.hid (hfresh.out w2 (hnm'.out.below hw2))
  clear hb2
  go_wp2_with fail
  refine Calls.mono hfr.out ?_
  rintro e w3 ⟨rfl, hnm3, hg23⟩
  have hg3 : w.grownBy w3 (some r) := (below_grown hw2 _).trans hg23
  have hs3 := hg23.size
  have hD3 : ∀ g, D g → g < w3.heap.size ∧ g ≠ r := fun g hg => ⟨Nat.lt_of_lt_of_le (hD'.out g hg).1 hg3.size, (hD'.out g hg).2⟩
  have ht3 := ht'.out.grown hg3 hD'.out
  have t23 := t2'.out.grown hg3 hD'.out
  have hbx3 := (hg23.block w.heap.size (by omega) (by intro e; injection e with e; omega)).trans hbx2
  have hrx3 := Lib.hid ((hg23.block (w.heap.size + 1) (by omega) (by intro e; injection e with e; omega)).trans hrx2)
  have hgb3 := hg3.block g hgw (by intro e; injection e with e; omega)
  obtain ⟨z3, k0, k1', -, -⟩ := two_cells hbx3
  have u1 := (World.cell?_of_block (a := ⟨g, 2, none⟩) hgb3).trans x1
  have u2 := (World.cell?_of_block (a := ⟨g, 3, none⟩) hgb3).trans x2
  have u3 := (World.cell?_of_block (a := ⟨g, 4, none⟩) hgb3).trans y0
  have u4 := (World.cell?_of_block (a := ⟨g, 5, none⟩) hgb3).trans y1
  have hg3w : g < w3.heap.size := Nat.lt_of_lt_of_le hgw hg3.size
  obtain ⟨bf, of3⟩ := (hf'.out.grown hg3).own
  obtain ⟨bt, ot3⟩ := (hto'.out.grown hg3).own
  have hS : Hid (∀ W' : World, W'.heap[g]? = w3.heap[g]? → W'.heap[w.heap.size]? = w3.heap[w.heap.size]? → (W'.cell? ⟨w.heap.size, 1, none⟩ = some (.slice (some ⟨g, 0, none⟩) 3 m) ∧ W'.cell? ⟨g, 2, none⟩ = some (.string ⟨s.toArray⟩) ∧ W'.cell? ⟨g, 3, none⟩ = some (.slice none 0 0) ∧
      W'.cell? ⟨g, 4, none⟩ = some (.string a2) ∧ W'.cell? ⟨g, 5, none⟩ = some (.slice p2 n2 c2) ∧ W'.cell? ⟨w.heap.size, 0, none⟩ = some (.string ⟨#[]⟩))) := fun W' h1 h2 =>
    ⟨(World.cell?_of_block (a := ⟨w.heap.size, 1, none⟩) h2).trans k1', (World.cell?_of_block (a := ⟨g, 2, none⟩) h1).trans u1, (World.cell?_of_block (a := ⟨g, 3, none⟩) h1).trans u2, (World.cell?_of_block (a := ⟨g, 4, none⟩) h1).trans u3, (World.cell?_of_block (a := ⟨g, 5, none⟩) h1).trans u4, (World.cell?_of_block (a := ⟨w.heap.size, 0, none⟩) h2).trans k0⟩
  have hHead : Hid (∀ W, Below w3.heap.size w3 W → Calls Tryz.prog 73 #[.agg #[.string ⟨#[]⟩, .slice (some ⟨g, 0, none⟩) 3 m]] W fun e w' => e = .returned (.string x0) ∧ Below W.heap.size W w') := fun W hW => by
    have h := head_lit ht3 (fun g hg => (hD3 g hg).1) W hW
    rw [show headOf [T.atom (bhead s), .atom s, b.tree] = bhead s from rfl, ← hxe'.out] at h
    exact h
  have hWF := Lib.hid (fun W (hW : Below w3.heap.size w3 W) => with_any Af sc.length cfr bf (olds sc) ⟨s.toArray⟩ W (own_below of3 hW) (by omega))
  have hWT := Lib.hid (fun W (hW : Below w3.heap.size w3 W) => with_any At sc.length cto bt (news sc) (bs' s') W (own_below ot3 hW) (by omega))
  have hR : Hid (∀ (W : World) (A4 A5 : Option Addr) (c4 c5 : Nat) (b4 b5 : Nat), Below w3.heap.size w3 W → w3.heap.size ≤ b4 → w3.heap.size ≤ b5 → W.ownsRow b4 9 1 (.slice A4 (sc.length + 1) c4) (sc.length + 1) ((olds sc ++ [(⟨s.toArray⟩ : ByteArray)]).map Value.string) →
      W.ownsRow b5 9 1 (.slice A5 (sc.length + 1) c5) (sc.length + 1) ((news sc ++ [bs' s']).map Value.string) →
      Calls Tryz.prog 74 #[.agg #[.string a2, .slice p2 n2 c2], .slice A4 (sc.length + 1) c4, .slice A5 (sc.length + 1) c5, .pointer (some ⟨r, 0, none⟩)] W (RRet r A nf cf free (b.ren free stay ((s, s') :: sc) (st.put v (i + 1))).1.tree (b.ren free stay ((s, s') :: sc) (st.put v (i + 1))).2 W)) := fun W A4 A5 c4 c5 b4 b5 hW h4 h5 o4 o5 => by
    have hr3 := hnm3.cells.1
    exact H.out ((s, s') :: sc) (st.put v (i + 1)) (a0 + 1) A4 c4 A5 c5 W D a2 p2 n2 c2 (t23.below hW (fun g hg => (hD3 g hg).1)) (fun g hg => And.intro (Nat.lt_of_lt_of_le (hD3 g hg).1 hW.size) (hD3 g hg).2)
      (hnm3.below hW) ⟨⟨b4, by rw [olds_cons]; exact o4⟩, fun k hk e => by have h1 := (o4.lt k hk).1; omega⟩ ⟨⟨b5, by rw [news_cons]; exact o5⟩, fun k hk e => by have h1 := (o5.lt k hk).1; omega⟩
      (fun x hx => by
        rcases List.mem_cons.1 hx with rfl | hx
        · exact hcn
        · exact hsc'.out x hx) (by simp only [List.length_cons]; omega) hst2'.out (by omega)
  have hKeep : Hid (∀ W, Below w3.heap.size w3 W → W.heap[g]? = w3.heap[g]? ∧ W.heap[w.heap.size]? = w3.heap[w.heap.size]?) := fun W hW => ⟨hW.block g hg3w, hW.block w.heap.size z3⟩
  have hKeep2 : Hid (∀ W W', Below w3.heap.size w3 W → W.grownBy W' (some r) → W'.heap[g]? = w3.heap[g]? ∧ W'.heap[w.heap.size]? = w3.heap[w.heap.size]?) := fun W W' hW hg => by
    refine ⟨(hg.block g (Nat.lt_of_lt_of_le hg3w hW.size) (fun e => by injection e with e; omega)).trans (hW.block g hg3w), (hg.block w.heap.size (Nat.lt_of_lt_of_le z3 hW.size) (fun e => by injection e with e; omega)).trans (hW.block w.heap.size z3)⟩
  have hnm3' := Lib.hid hnm3
  have hg3' := Lib.hid hg3
  have hb0 : Hid (Below w3.heap.size w3 w3.drew) := (Below.refl _ _).drew
  clear hbx3 hrx2 hbx2 hgb3 u1 u2 u3 u4 k0 k1' k1 of3 ot3 t23 ht3 hnm3 hg3 hg23 hfr hw2 hD3 x1 x2 y0 y1
  have hr3 := hnm3'.out.cells.1
  have hR8 : Hid (∀ W7 W8 : World, w3.grownBy W7 (some r) → Below W7.heap.size W7 W8 → w.heap.size + 1 < W8.heap.size ∧ W8.cell? ⟨w.heap.size + 1, 0, none⟩ = some (.string ⟨#[]⟩) ∧ W8.cell? ⟨w.heap.size + 1, 1, none⟩ = some (.slice none 0 0) ∧
      W8.frozen? ⟨w.heap.size + 1, 0, none⟩ = false ∧ W8.frozen? ⟨w.heap.size + 1, 1, none⟩ = false) := fun W7 W8 h7 h8 =>
    two_cells ((h8.block _ (Nat.lt_of_lt_of_le (by omega) h7.size)).trans ((h7.block _ (by omega) (by intro e; injection e with e; omega)).trans hrx3.out))
  have hList : Hid (∀ (W : World) (T2 : T) (u : ByteArray) (v : Option Addr) (m d : Nat), TC W (New w3.heap.size W) T2 u v m d → Calls Tryz.prog 20 #[.string x0, .slice (some ⟨W.heap.size, 0, none⟩) 2 2] (W.alloc (.cells #[.string (bs' s'), .slice none 0 0, .string u, .slice v m d] 29))
      (TreeRet (New w3.heap.size W) (.node [.atom (bhead s), .atom s', T2]) (W.alloc (.cells #[.string (bs' s'), .slice none 0 0, .string u, .slice v m d] 29)))) := fun W T2 u v m d htc => by
    have h := list2 (bhead s) (bhead_ne s) (.atom s') T2 (D := New w3.heap.size W) (w := W) (u1 := bs' s') (v1 := none) (m1 := 0) (d1 := 0) (fun g hg => hg.2) ⟨hcn, rfl, rfl, rfl, rfl⟩ htc
    rw [← hxe'.out] at h
    exact h
  go_wp2_with fail
  go_region_held3 (fun W' => W'.cell? ⟨w.heap.size, 1, none⟩ = some (.slice (some ⟨g, 0, none⟩) 3 m) ∧ W'.cell? ⟨g, 2, none⟩ = some (.string ⟨s.toArray⟩) ∧ W'.cell? ⟨g, 3, none⟩ = some (.slice none 0 0) ∧
      W'.cell? ⟨g, 4, none⟩ = some (.string a2) ∧ W'.cell? ⟨g, 5, none⟩ = some (.slice p2 n2 c2) ∧ W'.cell? ⟨w.heap.size, 0, none⟩ = some (.string ⟨#[]⟩))
    (first | exact hS.out _ rfl rfl | exact hS.out _ (hKeep.out _ hb4).1 (hKeep.out _ hb4).2 | exact hS.out _ (hKeep.out _ hb5).1 (hKeep.out _ hb5).2 | exact hS.out _ (hKeep.out _ hb6).1 (hKeep.out _ hb6).2 | exact hS.out _ (hKeep2.out _ _ hb6 gr7).1 (hKeep2.out _ _ hb6 gr7).2 | exact hS.out _ (hKeep2.out _ _ hb6 (gr7.trans (World.grownBy_alloc w7 _ _))).1 (hKeep2.out _ _ hb6 (gr7.trans (World.grownBy_alloc w7 _ _))).2 | exact hS.out _ (hKeep2.out _ _ hb6 gr8).1 (hKeep2.out _ _ hb6 gr8).2 | exact hS.out _ ((same_set w8 (w.heap.size + 1) _ _ g (by omega)).trans (hKeep2.out _ _ hb6 gr8).1) ((same_set w8 (w.heap.size + 1) _ _ w.heap.size (by omega)).trans (hKeep2.out _ _ hb6 gr8).2))
    (first
      | (go_at_call 73; refine Calls.mono (hHead.out _ hb0.out) ?_; rintro e w4 ⟨rfl, hb4'⟩; have hb4 := below_step hb0.out (Nat.le_refl _) hb4')
      | (go_at_call_of 77 Af; refine Calls.mono (hWF.out _ hb4) ?_; rintro e w5 ⟨A5, c5, rfl, own5, hb5'⟩; have hb5 := below_step hb4 (Nat.le_refl _) hb5')
      | (go_at_call_of 77 At; refine Calls.mono (hWT.out _ hb5) ?_; rintro e w6 ⟨A6, c6, rfl, own6, hb6'⟩; have hb6 := below_step hb5 (Nat.le_refl _) hb6')
      | (go_at_call 74; refine Calls.mono (hR.out _ A5 A6 c5 c6 _ _ hb6 hb4.size hb5.size (own_below own5 hb6') own6) ?_; rintro e w7 ⟨u7, v7, m7, d7, rfl, tc7, nm7, gr7⟩)
      | (go_at_call 20; refine Calls.mono (hList.out _ _ u7 v7 m7 d7 (TC.keep (fun _ _ => rfl) (fun g hg => ⟨Nat.le_trans hb6.size hg.1, hg.2⟩) _ _ _ _ _ tc7)) ?_; rintro e w8 ⟨u8, v8, m8, d8, rfl, tc8, hb8⟩; obtain ⟨e0, e1, e2, e3, e4⟩ := hR8.out _ w8 (((below_grown hb6 _).trans gr7).trans (World.grownBy_alloc w7 _ _)) hb8; have gr8 := (gr7.trans (World.grownBy_alloc w7 (.cells #[.string (bs' s'), .slice none 0 0, .string u7, .slice v7 m7 d7] 29) _)).trans (below_grown hb8 (some r))))
  go_wp2_with fail
  refine bodyPost_ret (v := .agg #[.string u8, .slice v8 m8 d8]) (by simp [results, Tryz.results74, go_sem, e1, e2]) rfl ?_
  have hg8 : w.grownBy w8 (some r) := (hg3'.out.trans (below_grown hb6 _)).trans gr8
  have hgf := grown_set2 (u := .string u8) (v := .slice v8 m8 d8) (b := w.heap.size + 1) hg8 (by omega)
  have s38 := gr8.size
  have s67 := gr7.size
  have s36 := hb6.size
  have s78 := hb8.size
  simp at s78
  rw [hrr.out]
  refine ⟨_, _, _, _, rfl, ?_, hnm'.out.of_grown hgf ?_, hgf⟩
  · rw [show (P.bd s' (b.ren free stay ((s, s') :: sc) (st.put v (i + 1))).1).tree = .node [.atom (bhead s'), .atom s', (b.ren free stay ((s, s') :: sc) (st.put v (i + 1))).1.tree] from rfl, ← hbn'.out]
    refine TC.keep (fun g' hg' => ?_) (fun g' hg' => ?_) _ _ _ _ _ tc8
    · refine same_set _ _ _ _ _ ?_
      rcases hg' with hg' | hg'
      · have := hg'.1; omega
      · have := hg'.1; simp at this; omega
    · rcases hg' with hg' | hg'
      · have h1 := hg'.1; have h2 := hg'.2; exact ⟨by omega, by simp; omega⟩
      · have h1 := hg'.1; have h2 := hg'.2; simp at h1; exact ⟨by omega, by simp; omega⟩
  · rw [same_set _ _ _ _ _ (by omega)]
    exact ((nm7.below ((Below.refl _ _).alloc (Nat.le_refl _) _)).below hb8).box

end Go.Proofs.YtaagbnbekfogiaaGreatDoor

namespace Go.Proofs.YtaagbnbekfogiaaGreatDoor
set_option linter.unusedVariables false
open Go.RowKit

theorem ren_binders (free : List Bs) : ∀ (q : P) (sc : List (Bs × Bs)) (st : St), (q.ren free stay sc st).1.binders = q.binders := by
  intro q
  induction q with
  | nm s => intro sc st; rw [P.ren]; cases look sc s <;> rfl
  | f1 h q ih => intro sc st; rw [P.ren, P.binders, ih, P.binders]
  | f2 h q q' ih ih' => intro sc st; rw [P.ren, P.binders, ih, ih', P.binders]
  | bd s b ih => intro sc st; rw [P.ren, P.binders, ih, P.binders]
/-- Programs are renamed one after another. -/
def renAll (free : List Bs) (sc : List (Bs × Bs)) : List P → St → List P × St
  | [], st => ([], st)
  | p :: l, st => ((p.ren free stay sc st).1 :: (renAll free sc l (p.ren free stay sc st).2).1, (renAll free sc l (p.ren free stay sc st).2).2)
theorem renAll_snoc (free : List Bs) (sc : List (Bs × Bs)) (q : P) : ∀ (l : List P) (st : St), renAll free sc (l ++ [q]) st = ((renAll free sc l st).1 ++ [(q.ren free stay sc (renAll free sc l st).2).1], (q.ren free stay sc (renAll free sc l st).2).2)
  | [], st => rfl
  | p :: l, st => by rw [List.cons_append, renAll, renAll_snoc free sc q l, renAll]; rfl
theorem renAll_take (free : List Bs) (sc : List (Bs × Bs)) (ks : List P) (st : St) {j : Nat} {q : P} (h : ks[j]? = some q) :
    renAll free sc (ks.take (j + 1)) st = ((renAll free sc (ks.take j) st).1 ++ [(q.ren free stay sc (renAll free sc (ks.take j) st).2).1], (q.ren free stay sc (renAll free sc (ks.take j) st).2).2) := by
  rw [List.take_add_one, h]
  exact renAll_snoc free sc q _ st
theorem renAll_len (free : List Bs) (sc : List (Bs × Bs)) : ∀ (l : List P) (st : St), (renAll free sc l st).1.length = l.length
  | [], _ => rfl
  | p :: l, st => by rw [renAll, List.length_cons, renAll_len free sc l, List.length_cons]
def szL : List P → Nat
  | [] => 0
  | p :: l => p.size + szL l
theorem szL_take : ∀ (l : List P) (j : Nat), szL (l.take j) ≤ szL l
  | [], j => by simp [szL]
  | p :: l, 0 => by simp [szL]
  | p :: l, j + 1 => by have := szL_take l j; simp [szL]; omega
theorem szL_at : ∀ (l : List P) {j : Nat} {q : P}, l[j]? = some q → szL (l.take j) + q.size ≤ szL l
  | [], j, q, h => by simp at h
  | p :: l, 0, q, h => by simp at h; subst h; simp [szL]
  | p :: l, j + 1, q, h => by have := szL_at l (j := j) (q := q) (by simpa using h); simp [szL]; omega
theorem renAll_st {free : List Bs} {sc : List (Bs × Bs)} : ∀ (l : List P) {st : St} {a : Nat}, StOk free st a → StOk free (renAll free sc l st).2 (a + szL l)
  | [], st, a, h => h
  | p :: l, st, a, h => by
    have h1 := ren_st (gst_stay free) p sc st a h
    rw [ren_binders] at h1
    have h2 := renAll_st (sc := sc) l h1
    rw [renAll]
    have hb := p.binders_size
    intro v
    refine pot_mono (h2 v) ?_
    rw [szL]; omega

/-- One part more behind those that are there: as kids_step, where the call may write block r. -/
theorem kids_stepG {lo r : Nat} {wr w1 W w2 : World} {base : Nat} {E : TypeId} {v : Value} {n m cap : Nat} {xs : List Value} {acc : List T} {t : T} {a : ByteArray} {p : Option Addr} {l c g : Nat}
    (hr : r < lo) (hwr : lo ≤ wr.heap.size) (own : wr.ownsRow base E 2 v n xs) (kids : Kids wr (fun g => New lo wr g ∧ v.ownBlock ≠ some g) acc xs)
    (hb1 : wr.grownBy w1 (some r)) (htc : TC w1 (New wr.heap.size w1) t a p l c) (hW : Below w1.heap.size w1 W) (hgrow : W.grownBy w2 v.ownBlock)
    (hat : v.ownBlock = some g ∨ g = W.heap.size) :
    Kids w2 (fun g' => New lo w2 g' ∧ (Value.slice (some ⟨g, 0, none⟩) m cap).ownBlock ≠ some g') (acc ++ [t]) (xs ++ [.string a, .slice p l c]) := by
  have s1 := hb1.size
  have s2 := hW.size
  have s3 := hgrow.size
  refine Kids.snoc ?_ ?_
  · refine TC.keep (fun g' hg => ?_) (fun g' hg => ?_) _ _ _ _ _ htc
    · obtain ⟨h1, h2⟩ := hg
      rw [hgrow.block g' (by omega) (fun e => ?_), hW.block g' (by omega)]
      have := own.lt g' e.symm
      omega
    · obtain ⟨h1, h2⟩ := hg
      refine ⟨⟨by omega, by omega⟩, fun e => ?_⟩
      have e' : g = g' := by simpa [Value.ownBlock] using e
      subst e'
      rcases hat with hat | hat
      · have := own.lt g hat
        omega
      · omega
  · refine Kids.keep (fun g' hg => ?_) (fun g' hg => ?_) _ _ kids
    · obtain ⟨⟨h1, h2⟩, h3⟩ := hg
      rw [hgrow.block g' (by omega) (fun e => h3 e.symm), hW.block g' (by omega), hb1.block g' h2 (fun e => by injection e with e; omega)]
    · obtain ⟨⟨h1, h2⟩, h3⟩ := hg
      refine ⟨⟨h1, by omega⟩, fun e => ?_⟩
      have e' : g = g' := by simpa [Value.ownBlock] using e
      subst e'
      rcases hat with hat | hat
      · exact h3 hat
      · omega
theorem grown_own {w W w' : World} {r : Nat} {o : Option Nat} (h : w.grownBy W (some r)) (hg : W.grownBy w' o) (ho : ∀ k, o = some k → w.heap.size ≤ k) : w.grownBy w' (some r) :=
  ⟨hg.os.trans h.os, hg.tape.trans h.tape, hg.output.trans h.output, Nat.le_trans h.size hg.size, fun k hk hne => (hg.block k (Nat.lt_of_lt_of_le hk h.size) (fun e => by have := ho k e.symm; omega)).trans (h.block k hk hne)⟩

set_option maxRecDepth 100000 in
set_option maxHeartbeats 2000000 in
theorem lrn_form (r : Nat) (A : Option Addr) (nf cf : Nat) (free : List Bs) (hnf : nf ≤ 90000) (h : Bs) (hh : h ≠ []) (hm : isMu h = false) (ks : List P) (hks : 1 ≤ ks.length ∧ ks.length ≤ 2) (H : ∀ q ∈ ks, Hid (LR r A nf cf free q))
    (sc : List (Bs × Bs)) (st : St) (a0 : Nat) (Af : Option Addr) (cfr : Nat) (At : Option Addr) (cto : Nat) (w : World) (D : Nat → Prop) (a : ByteArray) (q : Option Addr) (n m : Nat)
    (ht : TC w D (.node (.atom h :: ks.map P.tree)) a q n m) (hD : ∀ g, D g → g < w.heap.size ∧ g ≠ r) (hnm : NM w r A nf cf free st) (hf : NL w r Af sc.length cfr (olds sc)) (hto : NL w r At sc.length cto (news sc)) (hsc : ∀ x ∈ sc, x.2 ≠ [])
    (hlen : sc.length + szL ks ≤ 90000) (hst : StOk free st a0) (hbd : a0 + szL ks + free.length ≤ 900000) :
    Calls Tryz.prog 74 #[.agg #[.string a, .slice q n m], .slice Af sc.length cfr, .slice At sc.length cto, .pointer (some ⟨r, 0, none⟩)] w (RRet r A nf cf free (.node (.atom h :: (renAll free sc ks st).1.map P.tree)) (renAll free sc ks st).2 w) := by
  have hcall := Lib.hid (fun W hW => head_lit ht (fun g hg => (hD g hg).1) W hW)
  rw [show headOf (T.atom h :: ks.map P.tree) = h from rfl] at hcall
  have hbind := Lib.hid (fun W => binds_any h W)
  rw [hm] at hbind
  have ht' := Lib.hid ht
  obtain ⟨rfl, hn, g, rfl, hg, hp⟩ := ht.part
  have hgw := (hD g hg).1
  have hgne := (hD g hg).2
  have hn' : n = ks.length + 1 := by rw [hn]; simp
  subst hn'
  have hp' := Lib.hid hp
  have H' := Lib.hid H
  have hD' := Lib.hid hD
  have hnm' := Lib.hid hnm
  have hf' := Lib.hid hf
  have hto' := Lib.hid hto
  have hsc' := Lib.hid hsc
  have hst' := Lib.hid hst
  have hrw := hnm.cells.1
  obtain ⟨i0, hi0, hz0, hz1, hz2⟩ := info_parts infoTree
  clear hp H hD hn hg ht hnm hf hto hsc hst
  go_enter Tryz.func74, Tryz.ntmps74
  go_wp2_with fail
  refine Calls.mono (hcall.out _ (by repeat (with_reducible first | exact hbel | exact Below.refl _ _ | refine Below.drew ?_ | refine Below.drewN ?_ _ | refine Below.alloc ?_ (by first | (simp; done) | (simp; omega) | omega | (have := Below.size hbel; simp; omega) | (have := Below.size hbel; omega)) _ | refine Below.setCell ?_ (by first | (simp; done) | (simp; omega) | omega) _))) ?_
  rintro e w0 ⟨rfl, hb0⟩
  have hw0 := Lib.hid (below_step (((Below.refl _ _).alloc (Nat.le_refl _) _).alloc (by simp) _ : Below w.heap.size w ((w.alloc _).alloc _)) (by simp) hb0)
  have hbx := Lib.hid ((hb0.block w.heap.size (by simp; omega)).trans (first_alloc w _ _))
  have hrx := Lib.hid ((hb0.block (w.heap.size + 1) (by simp)).trans (second_alloc w _ _))
  have hs0 := hb0.size
  simp at hs0
  clear hb0
  go_wp2_with (go_at_call 76; refine Calls.mono (hbind.out _) ?_; rintro e w2 ⟨rfl, rfl⟩)
  go_loopw [11, 12] (fun v i wr => ∃ (j : Nat) (A1 : Option Addr) (c1 : Nat) (xs : List Value), j ≤ ks.length ∧ i = .int .i64 ((j : Int) + 1) ∧ v = .slice A1 j c1 ∧
      wr.ownsRow w0.heap.size 29 2 (.slice A1 j c1) j xs ∧ Kids wr (fun g => New w0.heap.size wr g ∧ (Value.slice A1 j c1).ownBlock ≠ some g) ((renAll free sc (ks.take j) st).1.map P.tree) xs ∧
      NM wr r A nf cf free (renAll free sc (ks.take j) st).2 ∧ w0.grownBy wr (some r))
    (fun _ i _ => ks.length + 1 - (intOf i).toNat)
  case atStart => exact ⟨0, _, _, [], Nat.zero_le _, rfl, rfl, World.ownsRow_made w0 #[] 0 (Nat.le_refl _) (by unfold maxLen; omega) rfl, rfl, (hnm'.out.below hw0.out).below ((Below.refl _ _).alloc (Nat.le_refl _) _), World.grownBy_alloc w0 _ _⟩
  case round =>
    obtain ⟨j, A1, c1, xs, hj, rfl, rfl, own1, kids1, nm1, gr1⟩ := hrel
    have hs2 := gr1.size
    have hrw0 : r < w0.heap.size := by omega
    have hbox := (gr1.block w.heap.size (by omega) (by intro e; injection e with e; omega)).trans hbx.out
    obtain ⟨z0, r0, r1, -, -⟩ := two_cells hbox
    have hgw1 : w.grownBy wr (some r) := (below_grown hw0.out _).trans gr1
    by_cases hlt : j < ks.length
    · obtain ⟨q, hq⟩ : ∃ q, ks[j]? = some q := ⟨ks[j], List.getElem?_eq_getElem _⟩
      obtain ⟨a1, p1, n1, c2, x0, x1, t1⟩ := hp'.out (j + 1) q.tree (by simp [hq])
      have hgb := hgw1.block g hgw (by intro e; injection e with e; omega)
      have y0 := (World.cell?_of_block (a := ⟨g, (j + 1) * 2, none⟩) hgb).trans x0
      have y1 := (World.cell?_of_block (a := ⟨g, (j + 1) * 2 + 1, none⟩) hgb).trans x1
      have hgr : g < wr.heap.size := Nat.lt_of_lt_of_le hgw hgw1.size
      have hjlen : (j : Int) + 1 < (ks.length : Int) + 1 := by omega
      have hH := H'.out q (List.mem_of_getElem? hq)
      have hsz := szL_at ks hq
      have hstj := renAll_st (sc := sc) (ks.take j) hst'.out
      have hcallR := Lib.hid (hH.out sc (renAll free sc (ks.take j) st).2 (a0 + szL (ks.take j)) Af cfr At cto wr D a1 p1 n1 c2 (t1.grown hgw1 hD'.out) (fun g hg => ⟨Nat.lt_of_lt_of_le (hD'.out g hg).1 hgw1.size, (hD'.out g hg).2⟩) nm1 (hf'.out.grown hgw1) (hto'.out.grown hgw1) hsc'.out (by omega) hstj (by omega))
      have hq' := Lib.hid hq
      have own1' := Lib.hid own1
      have kids1' := Lib.hid kids1
      have gr1' := Lib.hid gr1
      have hgw1' := Lib.hid hgw1
      clear x0 x1 t1 hq own1 kids1 gr1 hgw1 hbox nm1 hstj hgb
      go_wp2_with fail
      refine Calls.mono hcallR.out ?_
      rintro e w4 ⟨u4, v4, m4, d4, rfl, tc4, nm4, gr4⟩
      have hown4 : Hid (w4.ownsRow w0.heap.size 29 2 (.slice A1 j c1) j xs) := own_same own1'.out (fun k hk => gr4.block k (own1'.out.lt k hk).2 (by have := (own1'.out.lt k hk).1; intro e; injection e with e; omega))
      have tc4' := Lib.hid tc4
      have nm4' := Lib.hid nm4
      have gr4' := Lib.hid gr4
      have hs4 := gr4.size
      clear tc4 nm4 gr4
      go_wp2_with (first
        | (at_builtin; go_loud (refine wpList_append_lies _ rfl (.tmp 74) (.tmp 84) 27 rfl w0.heap.size 29 i0 _ 2 40 Tryz.underlying27 hi0 hz0 hz1 hz2 rfl (by decide) _ _ _ rfl (hown4.out.alloc _) ⟨w4.heap.size, 0, none⟩ 1 1 [.string u4, .slice v4 m4 d4] rfl rfl ?c1 ?c2 (by decide) ?c3 ?c4 ?c5 _ rfl ?_))
        | fail)
      case c1 => exact World.news_of_block (cs := #[.string u4, .slice v4 m4 d4]) (heap_alloc_new _ _)
      case c2 => intro u hu; simp at hu; rcases hu with rfl | rfl <;> rfl
      case c3 => unfold maxLen; omega
      case c4 => omega
      case c5 => simp; omega
      intro g2 cap w5 own5 gr5 hat hlt5
      have hrow := Lib.hid (kids_stepG (r := r) (m := j + 1) (cap := cap) hrw0 (by omega) own1'.out kids1'.out gr4'.out tc4'.out ((Below.refl _ _).alloc (Nat.le_refl _) (.cells #[.string u4, .slice v4 m4 d4] 29)) gr5 (g := g2) (by rcases hat with h | h; exact .inl h; exact .inr (by rw [h]; simp)))
      have hg05 : Hid (w0.grownBy w5 (some r)) := grown_own ((gr1'.out.trans gr4'.out).trans (World.grownBy_alloc w4 _ _)) gr5 (fun k hk => (own1'.out.lt k hk).1)
      have hr4 := nm4'.out.cells.1
      have hnm5 : Hid (NM w5 r A nf cf free (q.ren free stay sc (renAll free sc (ks.take j) st).2).2) := (hnm'.out.below hw0.out).of_grown hg05.out ((gr5.block r (by simp; omega) (fun e => by have := (own1'.out.lt r e.symm).1; omega)).trans ((Below.heap_alloc w4 _ r hr4).trans nm4'.out.box))
      have hpref := Lib.hid (renAll_take free sc ks st hq'.out)
      have own5' := Lib.hid own5
      clear own5 gr5 hat
      go_wp2_with fail
      go_roundw
      case rel => exact ⟨j + 1, some ⟨g2, 0, none⟩, cap, xs ++ [.string u4, .slice v4 m4 d4], by omega, by go_num, rfl, own5'.out, by rw [hpref.out, List.map_append]; exact hrow.out, by rw [hpref.out]; exact hnm5.out, hg05.out⟩
      case measure => simp [intOf]; omega
    · have e : j = ks.length := by omega
      subst e
      rw [List.take_of_length_le (Nat.le_refl _)] at kids1 nm1
      have htl : ((renAll free sc ks st).1.map P.tree).length = ks.length := by rw [List.length_map, renAll_len]
      generalize hts : (renAll free sc ks st).1.map P.tree = ts at *
      have own1' := Lib.hid own1
      have kids1' := Lib.hid kids1
      have gr1' := Lib.hid gr1
      have hgw1' := Lib.hid hgw1
      have nm1' := Lib.hid nm1
      have hHead := Lib.hid (head_lit (ht'.out.grown hgw1 hD'.out) (fun g hg => Nat.lt_of_lt_of_le (hD'.out g hg).1 hgw1.size) wr (Below.refl _ _))
      rw [show headOf (T.atom h :: ks.map P.tree) = h from rfl] at hHead
      obtain ⟨g2, cap, hv, hown, hlt2⟩ := own1'.out.form (by omega)
      have hA : A1 = some ⟨g2, 0, none⟩ := by injection hv
      subst hA
      have hg2 := (own1'.out.lt g2 rfl).1
      have hrx2 := Lib.hid ((gr1.block (w.heap.size + 1) (by omega) (by intro e; injection e with e; omega)).trans hrx.out)
      have htl' := Lib.hid htl
      have hjl : ¬ (ks.length : Int) + 1 < (ks.length : Int) + 1 := by omega
      clear hv hown hbox own1 kids1 gr1 hgw1 nm1 htl hts
      go_wp2_with fail
      refine Calls.mono hHead.out ?_
      rintro e w5 ⟨rfl, hb5⟩
      have hb5' := Lib.hid hb5
      have hcallL := l1List_any h hh ts xs g2 c1 w5 (fun g => New w0.heap.size wr g) (Kids.keep (fun g hg => hb5.block g hg.1.2) (fun g hg => hg.1) _ _ kids1'.out)
        (fun j u hu => by
          have h3 := (own_below own1'.out hb5).cells (g := g2) rfl j u hu
          have e : ({ block := g2, off := 0, spot := none } : Addr).add j = ⟨g2, j, none⟩ := by unfold Addr.add; split <;> simp_all
          rw [e] at h3; exact h3)
        (fun g hg => Nat.lt_of_lt_of_le hg.2 hb5.size) (Nat.lt_of_lt_of_le hlt2 hb5.size) (by rw [htl'.out]; omega) (by rw [htl'.out]; omega)
      rw [htl'.out] at hcallL
      have hcallL' := Lib.hid hcallL
      clear hb5 hcallL
      go_wp2_with fail
      refine Calls.mono hcallL'.out ?_
      rintro e w6 ⟨u6, v6, m6, d6, rfl, tc6, hb6⟩
      have h65 := hb6.size
      have h5r := hb5'.out.size
      clear r0 r1
      obtain ⟨z1, r0, r1, f0, f1⟩ := two_cells ((hb6.block (w.heap.size + 1) (by omega)).trans ((hb5'.out.block (w.heap.size + 1) (by omega)).trans hrx2.out))
      have tc6' := Lib.hid tc6
      have hb6' := Lib.hid hb6
      clear hb6 tc6
      go_wp2_with fail
      refine bodyPost_ret (v := .agg #[.string u6, .slice v6 m6 d6]) (by simp [results, Tryz.results74, go_sem, r0, r1]) rfl ?_
      have hg6 : w.grownBy w6 (some r) := (hgw1'.out.trans (below_grown hb5'.out _)).trans (below_grown hb6'.out _)
      have hgf := grown_set2 (u := .string u6) (v := .slice v6 m6 d6) (b := w.heap.size + 1) hg6 (by omega)
      refine ⟨_, _, _, _, rfl, TC.keep (fun g' hg' => ?_) (fun g' hg' => ?_) _ _ _ _ _ tc6'.out, hnm'.out.of_grown hgf ?_, hgf⟩
      · refine same_set _ _ _ _ _ ?_
        rcases hg' with hg' | hg'
        · have := hg'.1; omega
        · have := hg'.1; omega
      · rcases hg' with hg' | hg'
        · have h1 := hg'.1; have h2 := hg'.2; exact ⟨by omega, by simp; omega⟩
        · have h1 := hg'.1; have h2 := hg'.2; exact ⟨by omega, by simp; omega⟩
      · rw [same_set _ _ _ _ _ (by omega)]
        exact ((nm1'.out.below hb5'.out).below hb6'.out).box

theorem lr_any (r : Nat) (A : Option Addr) (nf cf : Nat) (free : List Bs) (hnf : nf ≤ 90000) : ∀ {p : P}, p.ok = true → LR r A nf cf free p
  | .nm s, _ => lrn_nm r A nf cf free s
  | .f1 h p, hk => fun sc st a0 Af cfr At cto w D a q n m ht hD hnm hf hto hsc hlen hst hbd => by
    have hm := (IsForm.noMu (p := .f1 h p) (h := h) (ks := [p]) ⟨rfl, rfl⟩ hk).1
    rw [P.ok, Bool.and_eq_true, decide_eq_true_iff] at hk
    rw [P.size] at hlen hbd
    have H := lr_any r A nf cf free hnf hk.1
    exact lrn_form r A nf cf free hnf h (hd1_ne hk.2).1 hm [p] (by simp) (fun q hq => by simp at hq; subst hq; exact H) sc st a0 Af cfr At cto w D a q n m ht hD hnm hf hto hsc (by simp [szL]; omega) hst (by simp [szL]; omega)
  | .f2 h p p', hk => fun sc st a0 Af cfr At cto w D a q n m ht hD hnm hf hto hsc hlen hst hbd => by
    have hm := (IsForm.noMu (p := .f2 h p p') (h := h) (ks := [p, p']) ⟨rfl, rfl⟩ hk).1
    rw [P.ok, Bool.and_eq_true, Bool.and_eq_true, decide_eq_true_iff] at hk
    rw [P.size] at hlen hbd
    have H := lr_any r A nf cf free hnf hk.1.1
    have H' := lr_any r A nf cf free hnf hk.1.2
    exact lrn_form r A nf cf free hnf h (hd2_ne hk.2).1 hm [p, p'] (by simp) (fun q hq => by simp at hq; rcases hq with rfl | rfl; exact H; exact H') sc st a0 Af cfr At cto w D a q n m ht hD hnm hf hto hsc (by simp [szL]; omega) hst (by simp [szL]; omega)
  | .bd s b, hk => by
    rw [P.ok, Bool.and_eq_true, Bool.and_eq_true] at hk
    exact lrn_bd r A nf cf free hnf s b (lr_any r A nf cf free hnf hk.1.2)

end Go.Proofs.YtaagbnbekfogiaaGreatDoor
