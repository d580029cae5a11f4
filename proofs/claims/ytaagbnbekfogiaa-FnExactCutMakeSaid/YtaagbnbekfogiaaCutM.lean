/- CutMake of the model and of the program. -/
import Derived.Test.YtaagbnbekfogiaaRdS
import Derived.Test.YtaagbnbekfogiaaKindLaw
import Derived.IntWalk
import Derived.Deep.QuietTactic
import Derived.BigQuiet
import Derived.Deep.RegionHeld3
namespace Go.Proofs.Ytaagbnbekfogiaa
set_option linter.unusedVariables false
open Go.RowKit
set_option maxRecDepth 100000

/-- The statement of two texts. -/
def mkS : Option P → Option P → Option P
  | some p, some q => if p.kind = .t ∧ q.kind = .c then some (.f2 cutB p q) else none
  | _, _ => none
def wrT : Option P → Bs
  | some p => writeT p
  | none => []
def wrB : Option P → Bool
  | some p => writeB p
  | none => false
def WPost (o : Option P) (w : World) (e : Ending) (w' : World) : Prop := e = .returned (.tuple #[str (wrT o), .bool (wrB o)]) ∧ Below w.heap.size w w'
theorem mkS_none1 (q : Option P) : mkS none q = none := by cases q <;> rfl
theorem mkS_none2 (p : Option P) : mkS p none = none := by cases p <;> rfl
theorem mkS_kind1 {p : P} (q : Option P) (h : p.kind ≠ .t) : mkS (some p) q = none := by
  cases q with
  | none => rfl
  | some q => simp [mkS, h]
theorem mkS_kind2 (p : Option P) {q : P} (h : q.kind ≠ .c) : mkS p (some q) = none := by
  cases p with
  | none => rfl
  | some p => simp [mkS, h]
theorem kindn_t {k : K} (h : k ≠ .t) : (k.name == [116, 101, 114, 109]) = false := by cases k <;> first | exact absurd rfl h | decide
theorem kindn_c {k : K} (h : k ≠ .c) : (k.name == [99, 111, 116, 101, 114, 109]) = false := by cases k <;> first | exact absurd rfl h | decide
theorem mk_ok {p q : P} (h1 : p.ok = true) (h2 : q.ok = true) (h3 : p.kind = .t) (h4 : q.kind = .c) : (P.f2 cutB p q).ok = true := by
  rw [P.ok, h1, h2, h3, h4]; rfl

set_option maxHeartbeats 1000000 in
theorem implMake_any (s t : ByteArray) (w : World) : Calls Try.prog 8 #[.string s, .string t] w (WPost (mkS (readP s.data.toList) (readP t.data.toList)) w) := by
  generalize hz : readP s.data.toList = o
  generalize hu : readP t.data.toList = r
  have hz' := Lib.hid hz
  have hu' := Lib.hid hu
  have hrs := Lib.hid (fun W => readProgram_any s W)
  have hrt := Lib.hid (fun W => readProgram_any t W)
  rw [hz] at hrs
  rw [hu] at hrt
  clear hz hu
  cases o with
  | none =>
    rw [mkS_none1]
    go_enter Try.func8, Try.ntmps8
    go_wp2_with fail
    refine Calls.mono (hrs.out _) ?_
    rintro e w1 ⟨hb1, rfl⟩
    have hb1' := Lib.hid hb1
    clear hb1
    go_wp2_with fail
    refine Calls.mono (hrt.out _) ?_
    intro e w2 hm
    cases r with
    | none =>
      obtain ⟨hb2, rfl⟩ := hm
      go_wp2_with fail
      go_ret2
      exact ⟨rfl, below_step hb1'.out (Nat.le_refl _) hb2⟩
    | some q =>
      obtain ⟨hb2, y, rfl, hy⟩ := hm
      clear hy
      go_wp2_with fail
      go_ret2
      exact ⟨rfl, below_step hb1'.out (Nat.le_refl _) hb2⟩
  | some p =>
    have hokp := (readP_ok hz'.out).1
    have h5p := (readP_ok hz'.out).2.1
    cases r with
    | none =>
      rw [mkS_none2]
      clear hokp h5p
      go_enter Try.func8, Try.ntmps8
      go_wp2_with fail
      refine Calls.mono (hrs.out _) ?_
      rintro e w1 ⟨hb1, y, rfl, hy⟩
      have hb1' := Lib.hid hb1
      clear hb1 hy
      go_wp2_with fail
      refine Calls.mono (hrt.out _) ?_
      rintro e w2 ⟨hb2, rfl⟩
      go_wp2_with fail
      go_ret2
      exact ⟨rfl, below_step hb1'.out (Nat.le_refl _) hb2⟩
    | some q =>
      have hokq := (readP_ok hu'.out).1
      have h5q := (readP_ok hu'.out).2.1
      by_cases hk1 : p.kind = .t
      · by_cases hk2 : q.kind = .c
        · have hok := mk_ok hokp hokq hk1 hk2
          have hw := Lib.hid (fun W D x h1 h2 => write_any (p := .f2 cutB p q) (fun _ => hok) (by rw [P.size]; omega) W D x h1 h2)
          rw [show mkS (some p) (some q) = some (.f2 cutB p q) from by simp [mkS, hk1, hk2]]
          have hk1' := Lib.hid hk1
          have hk2' := Lib.hid hk2
          have hKp := Lib.hid (kind_any hokp)
          have hKq := Lib.hid (kind_any hokq)
          clear hk1 hk2 hok hokp hokq h5p h5q
          go_enter Try.func8, Try.ntmps8
          go_wp2_with fail
          refine Calls.mono (hrs.out _) ?_
          rintro e w1 ⟨hb1, y, rfl, hy⟩
          have hb1' := Lib.hid hb1
          have mp := fun w => kind_m hy w
          have cp := fun x w => kind_c p x w
          have hkp := Lib.hid (fun W (hW : Below w1.heap.size w1 W) => hKp.out W _ y (hy.below hW (fun g hg => hg.2)))
          rw [hk1'.out, show K.t.name = [116, 101, 114, 109] from rfl] at hkp
          have hy' := Lib.hid hy
          clear hb1 hy
          go_wp2_with fail
          refine Calls.mono (hrt.out _) ?_
          rintro e w2 ⟨hb2, z, rfl, hz⟩
          have hb2' := Lib.hid hb2
          have mq := fun w => kind_m hz w
          have cq := fun x w => kind_c q x w
          have hkq := Lib.hid (fun W (hW : Below w2.heap.size w2 W) => hKq.out W _ z (hz.below hW (fun g hg => hg.2)))
          rw [hk2'.out, show K.c.name = [99, 111, 116, 101, 114, 109] from rfl] at hkq
          have hz' := Lib.hid hz
          clear hb2 hz
          go_wp2_with fail
          refine Calls.mono (hkp.out _ hb2'.out) ?_
          rintro e w3 ⟨rfl, hb3⟩
          have hb3' := Lib.hid (below_step hb2'.out (Nat.le_refl _) hb3)
          have hb23 := Lib.hid hb3
          clear hb3
          go_wp2_with fail
          refine Calls.mono (hkq.out _ hb23.out) ?_
          rintro e w4 ⟨rfl, hb4⟩
          have hb14 := Lib.hid (below_step hb3'.out (Nat.le_refl _) hb4)
          have hb24 := Lib.hid (below_step hb23.out (Nat.le_refl _) hb4)
          clear hb4
          have hs4 := hb24.out.size
          go_wp2_with fail
          refine Calls.mono (formOf_any cutB _ _ _ _) ?_
          rintro e w5 ⟨rfl, hb5⟩
          have hblk := block_cells ((hb5.block w4.heap.size (by simp)).trans (heap_alloc_new w4 _))
          have hb45 : Below w4.heap.size w4 w5 := below_step (bb_alloc (Below.refl _ _) _) (Nat.le_refl _) hb5
          have hb25 := below_step hb24.out (Nat.le_refl _) hb45
          have hb15 := below_step hb14.out (Nat.le_refl _) hb45
          have hpi : PI w5 (fun g => g < w5.heap.size) (.f2 cutB p q) (.agg #[str cutB, .slice (some ⟨w4.heap.size, 0, none⟩) 2 2]) :=
            ⟨w4.heap.size, 2, y, z, rfl, Nat.lt_of_lt_of_le (by simp) hb5.size, hblk 0 _ rfl, (hy'.out.below hb15 (fun g hg => hg.2)).to (fun g hg => Nat.lt_of_lt_of_le hg.2 hb15.size), hblk 1 _ rfl, (hz'.out.below hb25 (fun g hg => hg.2)).to (fun g hg => Nat.lt_of_lt_of_le hg.2 hb25.size)⟩
          have hwr := Lib.hid (hw.out w5 _ _ hpi (fun g hg => hg))
          have hb05 := Lib.hid (below_step hb1'.out (Nat.le_refl _) hb15)
          clear hpi hblk hb5 hb45 hb25 hb15
          rw [show pt (.f2 cutB p q) = 40 from rfl] at hwr
          go_wp2_with fail
          refine Calls.mono hwr.out ?_
          rintro e w6 ⟨rfl, hb6⟩
          go_wp2_with fail
          go_ret2
          exact ⟨rfl, below_step hb05.out (Nat.le_refl _) hb6⟩
        · rw [mkS_kind2 _ hk2]
          have hne := kindn_c hk2
          have hk1' := Lib.hid hk1
          have hKp := Lib.hid (kind_any hokp)
          have hKq := Lib.hid (kind_any hokq)
          clear hk1 hk2 hokp hokq h5p h5q
          go_enter Try.func8, Try.ntmps8
          go_wp2_with fail
          refine Calls.mono (hrs.out _) ?_
          rintro e w1 ⟨hb1, y, rfl, hy⟩
          have hb1' := Lib.hid hb1
          have mp := fun w => kind_m hy w
          have cp := fun x w => kind_c p x w
          have hkp := Lib.hid (fun W (hW : Below w1.heap.size w1 W) => hKp.out W _ y (hy.below hW (fun g hg => hg.2)))
          rw [hk1'.out, show K.t.name = [116, 101, 114, 109] from rfl] at hkp
          clear hb1 hy
          go_wp2_with fail
          refine Calls.mono (hrt.out _) ?_
          rintro e w2 ⟨hb2, z, rfl, hz⟩
          have hb2' := Lib.hid hb2
          have mq := fun w => kind_m hz w
          have cq := fun x w => kind_c q x w
          have hkq := Lib.hid (fun W (hW : Below w2.heap.size w2 W) => hKq.out W _ z (hz.below hW (fun g hg => hg.2)))
          generalize q.kind.name = nm at *
          clear hb2 hz
          go_wp2_with fail
          refine Calls.mono (hkp.out _ hb2'.out) ?_
          rintro e w3 ⟨rfl, hb3⟩
          have hb3' := Lib.hid (below_step hb2'.out (Nat.le_refl _) hb3)
          have hb23 := Lib.hid hb3
          clear hb3
          go_wp2_with fail
          refine Calls.mono (hkq.out _ hb23.out) ?_
          rintro e w4 ⟨rfl, hb4⟩
          go_wp2_with fail
          go_ret2
          exact ⟨rfl, below_step hb1'.out (Nat.le_refl _) (below_step hb3'.out (Nat.le_refl _) hb4)⟩
      · rw [mkS_kind1 _ hk1]
        have hne := kindn_t hk1
        have hKp := Lib.hid (kind_any hokp)
        clear hk1 hokp hokq h5p h5q
        go_enter Try.func8, Try.ntmps8
        go_wp2_with fail
        refine Calls.mono (hrs.out _) ?_
        rintro e w1 ⟨hb1, y, rfl, hy⟩
        have hb1' := Lib.hid hb1
        have mp := fun w => kind_m hy w
        have cp := fun x w => kind_c p x w
        have hkp := Lib.hid (fun W (hW : Below w1.heap.size w1 W) => hKp.out W _ y (hy.below hW (fun g hg => hg.2)))
        generalize p.kind.name = nm at *
        clear hb1 hy
        go_wp2_with fail
        refine Calls.mono (hrt.out _) ?_
        rintro e w2 ⟨hb2, z, rfl, hz⟩
        have hb2' := Lib.hid hb2
        clear hb2 hz
        go_wp2_with fail
        refine Calls.mono (hkp.out _ hb2'.out) ?_
        rintro e w3 ⟨rfl, hb3⟩
        go_wp2_with fail
        go_ret2
        exact ⟨rfl, below_step hb1'.out (Nat.le_refl _) (below_step hb2'.out (Nat.le_refl _) hb3)⟩


theorem cut_text (p q : P) : (P.f2 cutB p q).text = [40, 99, 117, 116, 32] ++ p.text ++ [32] ++ q.text ++ [41] := by
  simp [P.text, P.tree, T.text, textAll, cutB]
theorem kind_cut (p q : P) : (P.f2 cutB p q).kind = .s := by rw [P.kind]; rfl
theorem kind_write {r : P} (hok : r.ok = true) (hk : r.kind = .s) (h5 : r.size ≤ 500) : (kindText (readP r.text) = [115, 116, 97, 116, 101, 109, 101, 110, 116] ∧ writeB r = true ∧ writeT r = r.text) ∨ (kindText (readP r.text) = [] ∧ writeB r = false ∧ writeT r = []) := by
  cases hr : readP r.text with
  | none =>
    have e1 : writeB r = false := by simp [writeB, hr]
    exact .inr ⟨rfl, e1, by simp [writeT, e1]⟩
  | some x =>
    have e1 : writeB r = true := by simp [writeB, hr, h5]
    have e2 := writeB_read hok e1
    rw [hr] at e2
    injection e2 with e2
    subst e2
    exact .inl ⟨by rw [kindText, hk]; rfl, e1, by simp [writeT, e1]⟩

set_option maxHeartbeats 2000000 in
theorem specMake_any (s t : ByteArray) (w : World) : Calls Try.prog 7 #[.string s, .string t] w (WPost (mkS (readP s.data.toList) (readP t.data.toList)) w) := by
  generalize hz : readP s.data.toList = o
  generalize hu : readP t.data.toList = r
  have hz' := Lib.hid hz
  have hu' := Lib.hid hu
  clear hz hu
  go_enter Try.func7, Try.ntmps7
  go_wp2_with fail
  refine Calls.mono (l2Read_any s _) ?_
  rintro e w1 ⟨hb1, hp⟩
  have hb1' := Lib.hid hb1
  clear hb1
  rcases hp with ⟨p, a, A, n, c, hrd, rfl, htc⟩ | ⟨a, A, n, c, hrd, rfl⟩
  · obtain rfl : some p = o := hrd.symm.trans hz'.out
    have htc' := Lib.hid htc
    clear htc hrd
    go_wp2_with fail
    refine Calls.mono (l2Read_any t _) ?_
    rintro e w2 ⟨hb2, hp⟩
    have hb2' := Lib.hid hb2
    clear hb2
    have hbA : Hid (Below w.heap.size w (w1.alloc (.cells #[.string a, .slice A n c] 30))) := Lib.hid (bb_alloc hb1'.out _)
    have hbB : Hid (Below w.heap.size w w2) := Lib.hid (below_step hbA.out (Nat.le_refl _) hb2'.out)
    rcases hp with ⟨q, b, B, m, d, hrd, rfl, htd⟩ | ⟨b, B, m, d, hrd, rfl⟩
    · obtain rfl : some q = r := hrd.symm.trans hu'.out
      have htd' := Lib.hid htd
      clear htd hrd
      by_cases hk1 : p.kind = .t
      · by_cases hk2 : q.kind = .c
        · have hfin0 := Lib.hid (fun (R : P) (h : R = .f2 cutB p q) => show mkS (some p) (some q) = some R from by simp [mkS, hk1, hk2, h])
          rw [hk1, hk2, show K.t.let = [116] from rfl, show K.c.let = [99] from rfl]
          have hokp := (readP_ok hz'.out).1
          have hokq := (readP_ok hu'.out).1
          have h5p := (readP_ok hz'.out).2.1
          have h5q := (readP_ok hu'.out).2.1
          have hsz1 := P.sz_tree p
          have hsz2 := P.sz_tree q
          have hbx : Below w1.heap.size w1 (w1.alloc (.cells #[.string a, .slice A n c] 30)) := bb_alloc (Below.refl _ _) _
          have h12 : Below w1.heap.size w1 w2 := below_step hbx (Nat.le_refl _) hb2'.out
          have hA1 : Hid (∀ W, Below w2.heap.size w2 W → Calls Try.prog 12 #[.agg #[.string a, .slice A n c]] W fun e w' => e = .returned (.int .i64 (p.size : Nat)) ∧ Below W.heap.size W w') := Lib.hid fun W hW => by
            have h := atoms_all 9000 (by omega) p.tree W _ a A n c (by omega) ((htc'.out.below h12 (fun g hg => hg.2)).below hW (fun g hg => Nat.lt_of_lt_of_le hg.2 h12.size)) (fun g hg => Nat.lt_of_lt_of_le hg.2 (Nat.le_trans h12.size hW.size))
            rw [P.atoms_tree] at h
            exact h
          have hA2 : Hid (∀ W, Below w2.heap.size w2 W → Calls Try.prog 12 #[.agg #[.string b, .slice B m d]] W fun e w' => e = .returned (.int .i64 (q.size : Nat)) ∧ Below W.heap.size W w') := Lib.hid fun W hW => by
            have h := atoms_all 9000 (by omega) q.tree W _ b B m d (by omega) (htd'.out.below hW (fun g hg => hg.2)) (fun g hg => Nat.lt_of_lt_of_le hg.2 hW.size)
            rw [P.atoms_tree] at h
            exact h
          have hbk1 := (hb2'.out.block w1.heap.size (by simp)).trans (heap_alloc_new w1 _)
          have hz12 : w1.heap.size < w2.heap.size := by have := hb2'.out.size; simp at this; omega
          have hS : Hid (∀ W', Below (w2.heap.size + 1) (w2.alloc (.cells #[.string b, .slice B m d] 30)) W' → W'.cell? ⟨w1.heap.size, 0, none⟩ = some (.string a) ∧ W'.cell? ⟨w1.heap.size, 1, none⟩ = some (.slice A n c) ∧ W'.cell? ⟨w2.heap.size, 0, none⟩ = some (.string b) ∧ W'.cell? ⟨w2.heap.size, 1, none⟩ = some (.slice B m d)) := fun W' h => by
            have hb := (h.block w2.heap.size (by omega)).trans (heap_alloc_new w2 _)
            have hb0 : Below w2.heap.size w2 W' := (bb_alloc (Below.refl _ _) _ : Below w2.heap.size w2 (w2.alloc _)).trans (h.mono (by omega))
            have hc := (hb0.block w1.heap.size hz12).trans hbk1
            exact ⟨block_cells hc 0 _ rfl, block_cells hc 1 _ rfl, block_cells hb 0 _ rfl, block_cells hb 1 _ rfl⟩
          have hB : Hid (∀ W', Below (w2.heap.size + 1) (w2.alloc (.cells #[.string b, .slice B m d] 30)) W' → Below w2.heap.size w2 W') := fun W' h => (bb_alloc (Below.refl _ _) _ : Below w2.heap.size w2 (w2.alloc _)).trans (h.mono (by omega))
          have hwk := Lib.hid (fun h => kind_write (mk_ok hokp hokq hk1 hk2) (kind_cut p q) h)
          have hbk := readP_back hz'.out
          have hbk2 := readP_back hu'.out
          have l1 := P.text_length hokp
          have l2 := P.text_length hokq
          have hls : s.data.toList.length ≤ 4000 := by rw [hbk.1]; omega
          have hlt : t.data.toList.length ≤ 4000 := by rw [hbk2.1]; omega
          have hls' : s.size ≤ 4000 := by simpa using hls
          have hlt' : t.size ≤ 4000 := by simpa using hlt
          have htx : Hid ((⟨#[40, 99, 117, 116, 32]⟩ ++ s ++ ⟨#[32]⟩ ++ t ++ ⟨#[41]⟩ : ByteArray) = ⟨(P.f2 cutB p q).text.toArray⟩) := by
            have e1 : s = ⟨p.text.toArray⟩ := by rw [← hbk.1]
            have e2 : t = ⟨q.text.toArray⟩ := by rw [← hbk2.1]
            show (⟨#[40, 99, 117, 116, 32]⟩ ++ s ++ ⟨#[32]⟩ ++ t ++ ⟨#[41]⟩ : ByteArray) = _
            rw [cut_text, e1, e2, show (⟨#[40, 99, 117, 116, 32]⟩ : ByteArray) = ⟨[40, 99, 117, 116, 32].toArray⟩ from rfl, show (⟨#[32]⟩ : ByteArray) = ⟨[32].toArray⟩ from rfl, show (⟨#[41]⟩ : ByteArray) = ⟨[41].toArray⟩ from rfl]
            simp only [ba_append]
          clear hbk hbk2 l1 l2 hls hlt hokp hokq hk1 hk2 hz' hu' hsz1 hsz2 htc' htd' hbx h12 hbk1
          have hszr : (P.f2 cutB p q).size = 1 + p.size + q.size := by rw [P.size]
          rw [hszr] at hwk
          have hwB0 : ¬ 1 + p.size + q.size ≤ 500 → writeB (.f2 cutB p q) = false ∧ writeT (.f2 cutB p q) = [] := fun h => by
            have e1 : writeB (.f2 cutB p q) = false := by simp only [writeB, hszr, decide_eq_false h, Bool.false_and]
            exact ⟨e1, by simp [writeT, e1]⟩
          have hwB := Lib.hid hwB0
          clear hszr hwB0
          obtain ⟨R, hR⟩ : ∃ R, R = P.f2 cutB p q := ⟨_, rfl⟩
          have hfin := Lib.hid (hfin0.out R hR)
          rw [← hR] at htx hwk hwB
          clear hfin0 hR
          have s1 : IntKind.i64.wrap ((p.size : Int) + (q.size : Int)) = (p.size : Int) + (q.size : Int) := IntWalk.i64_in _ (by omega)
          have s2 : IntKind.i64.wrap ((p.size : Int) + (q.size : Int) + 1) = (p.size : Int) + (q.size : Int) + 1 := IntWalk.i64_in _ (by omega)
          have hc1 := Lib.hid (hA1.out (w2.alloc (.cells #[.string b, .slice B m d] 30)).drew (hB.out _ (Below.refl _ _).drew))
          have hw2 : Hid (∀ w3, Below (w2.alloc (.cells #[.string b, .slice B m d] 30)).drew.heap.size (w2.alloc (.cells #[.string b, .slice B m d] 30)).drew w3 → Below w2.heap.size w2 w3) := fun w3 h => hB.out _ (below_step (Below.refl _ _).drew (by simp) h)
          by_cases h5 : 1 + p.size + q.size ≤ 500
          · have hle : (500 < (p.size : Int) + (q.size : Int) + 1) = False := by simp; omega
            have hwk2 := Lib.hid (hwk.out h5)
            clear hwk hwB
            go_wp2_with fail
            go_region_held3 (fun w' => w'.cell? ⟨w1.heap.size, 0, none⟩ = some (.string a) ∧ w'.cell? ⟨w1.heap.size, 1, none⟩ = some (.slice A n c) ∧ w'.cell? ⟨w2.heap.size, 0, none⟩ = some (.string b) ∧ w'.cell? ⟨w2.heap.size, 1, none⟩ = some (.slice B m d))
              (first | exact keep0 hS.out | exact keep1 hS.out hb3 | exact keep2 hS.out hb3 hb4)
              (first
                | (go_at_call 12; have hq2 := hA2.out w3 (hw2.out w3 hb3); refine Calls.mono hq2 ?_; rintro e w4 ⟨rfl, hb4⟩)
                | (go_at_call 12; refine Calls.mono hc1.out ?_; rintro e w3 ⟨rfl, hb3⟩))
            have hb24 := Lib.hid (below_step (hw2.out w3 hb3) (Nat.le_refl _) hb4)
            have hb04 := Lib.hid (below_step hbB.out (Nat.le_refl _) hb24.out)
            clear hb3 hb4 s1 s2 hle
            have k1 := fun (w : World) => run_string_add_sum (P := Try.prog) w ⟨#[40, 99, 117, 116, 32]⟩ s (by show 5 + s.size ≤ _; omega)
            have k2 := fun (w : World) => run_string_add_sum (P := Try.prog) w (⟨#[40, 99, 117, 116, 32]⟩ ++ s) ⟨#[32]⟩ (by rw [ByteArray.size_append]; show 5 + s.size + 1 ≤ _; omega)
            have k3 := fun (w : World) => run_string_add_sum (P := Try.prog) w (⟨#[40, 99, 117, 116, 32]⟩ ++ s ++ ⟨#[32]⟩) t (by rw [ByteArray.size_append, ByteArray.size_append]; show 5 + s.size + 1 + t.size ≤ _; omega)
            have k4 := fun (w : World) => run_string_add_sum (P := Try.prog) w (⟨#[40, 99, 117, 116, 32]⟩ ++ s ++ ⟨#[32]⟩ ++ t) ⟨#[41]⟩ (by rw [ByteArray.size_append, ByteArray.size_append, ByteArray.size_append]; show 5 + s.size + 1 + t.size + 1 ≤ _; omega)
            rw [htx.out] at k4
            have hK := Lib.hid (fun W => specKind_any ⟨R.text.toArray⟩ W)
            rw [show (⟨R.text.toArray⟩ : ByteArray).data.toList = R.text from rfl] at hK
            rcases hwk2.out with ⟨e1, e2, e3⟩ | ⟨e1, e2, e3⟩
            · rw [e1] at hK
              have e4 := Lib.hid (show str R.text = str (wrT (some R)) ∧ Value.bool true = Value.bool (wrB (some R)) from ⟨by rw [wrT, e3], by rw [wrB, e2]⟩)
              clear e1 e2 e3 hwk2
              go_wp2_with (refine Calls.mono (hK.out _) ?_; rintro e w5 ⟨rfl, hb5⟩)
              go_ret2
              exact ⟨by rw [hfin.out, ← e4.out.1, ← e4.out.2]; rfl, below_step hb04.out (Nat.le_refl _) hb5⟩
            · rw [e1] at hK
              have e4 := Lib.hid (show str [] = str (wrT (some R)) ∧ Value.bool false = Value.bool (wrB (some R)) from ⟨by rw [wrT, e3], by rw [wrB, e2]⟩)
              clear e1 e2 e3 hwk2
              go_wp2_with (refine Calls.mono (hK.out _) ?_; rintro e w5 ⟨rfl, hb5⟩)
              go_ret2
              exact ⟨by rw [hfin.out, ← e4.out.1, ← e4.out.2]; rfl, below_step hb04.out (Nat.le_refl _) hb5⟩
          · have hle : (500 < (p.size : Int) + (q.size : Int) + 1) = True := by simp; omega
            have hwB2 := Lib.hid (hwB.out h5)
            have e4 := Lib.hid (show str [] = str (wrT (some R)) ∧ Value.bool false = Value.bool (wrB (some R)) from ⟨by rw [wrT, hwB2.out.2], by rw [wrB, hwB2.out.1]⟩)
            clear hwk hwB hwB2
            go_wp2_with fail
            go_region_held3 (fun w' => w'.cell? ⟨w1.heap.size, 0, none⟩ = some (.string a) ∧ w'.cell? ⟨w1.heap.size, 1, none⟩ = some (.slice A n c) ∧ w'.cell? ⟨w2.heap.size, 0, none⟩ = some (.string b) ∧ w'.cell? ⟨w2.heap.size, 1, none⟩ = some (.slice B m d))
              (first | exact keep0 hS.out | exact keep1 hS.out hb3 | exact keep2 hS.out hb3 hb4)
              (first
                | (go_at_call 12; have hq2 := hA2.out w3 (hw2.out w3 hb3); refine Calls.mono hq2 ?_; rintro e w4 ⟨rfl, hb4⟩)
                | (go_at_call 12; refine Calls.mono hc1.out ?_; rintro e w3 ⟨rfl, hb3⟩))
            have hb24 := Lib.hid (below_step (hw2.out w3 hb3) (Nat.le_refl _) hb4)
            have hb04 := Lib.hid (below_step hbB.out (Nat.le_refl _) hb24.out)
            clear hb3 hb4 s1 s2 hle
            go_wp2_with fail
            go_ret2
            exact ⟨by rw [hfin.out, ← e4.out.1, ← e4.out.2]; rfl, hb04.out⟩
        · have hfin := Lib.hid (mkS_kind2 (some p) hk2)
          have hne : (q.kind.let == [99]) = false := by revert hk2; cases q.kind <;> decide
          clear hu' hz' htc' htd'
          cases hk : p.kind <;> cases hq : q.kind <;> first | exact absurd hq hk2 | exact absurd hk1 (by rw [hk]; decide) | skip
          all_goals
            simp only [K.let]
            clear hk hq hk1 hk2 hne
            go_wp2_with fail
            go_quiet (fail)
            go_wp2_with fail
            go_ret2
            exact ⟨by rw [hfin.out]; rfl, Below.drewN (bb_alloc hbB.out _) _⟩
      · have hfin := Lib.hid (mkS_kind1 (some q) hk1)
        clear hu' hz' htc' htd'
        cases hk : p.kind <;> cases hq : q.kind <;> first | exact absurd hk hk1 | skip
        all_goals
          simp only [K.let]
          clear hk hq hk1
          go_wp2_with fail
          go_quiet (fail)
          go_wp2_with fail
          go_ret2
          exact ⟨by rw [hfin.out]; rfl, Below.drewN (bb_alloc hbB.out _) _⟩
    · obtain rfl : none = r := hrd.symm.trans hu'.out
      rw [mkS_none2]
      clear hrd hu' hz' htc'
      cases p.kind <;> simp only [K.let]
      all_goals
        go_wp2_with fail
        go_quiet (fail)
        go_wp2_with fail
        go_ret2
        exact ⟨rfl, Below.drewN (bb_alloc hbB.out _) _⟩
  · obtain rfl : none = o := hrd.symm.trans hz'.out
    rw [mkS_none1]
    clear hrd hz'
    go_wp2_with fail
    refine Calls.mono (l2Read_any t _) ?_
    rintro e w2 ⟨hb2, hp⟩
    have hb2' := Lib.hid hb2
    clear hb2
    have hbA : Hid (Below w.heap.size w (w1.alloc (.cells #[.string a, .slice A n c] 30))) := Lib.hid (bb_alloc hb1'.out _)
    have hbB : Hid (Below w.heap.size w w2) := Lib.hid (below_step hbA.out (Nat.le_refl _) hb2'.out)
    rcases hp with ⟨q, b, B, m, d, hrd, rfl, htd⟩ | ⟨b, B, m, d, hrd, rfl⟩
    · clear htd hrd hu'
      cases q.kind <;> simp only [K.let]
      all_goals
        go_wp2_with fail
        go_quiet (fail)
        go_wp2_with fail
        go_ret2
        exact ⟨rfl, Below.drewN (bb_alloc hbB.out _) _⟩
    · clear hrd hu'
      go_wp2_with fail
      go_quiet (fail)
      go_wp2_with fail
      go_ret2
      exact ⟨rfl, Below.drewN (bb_alloc hbB.out _) _⟩


theorem lawCutMake (s : ByteArray) (_ : s.size ≤ maxLen) (t : ByteArray) (_ : t.size ≤ maxLen) (w : World) : Calls Try.prog 4 #[.string s, .string t] w fun e w' => e = .returned (.bool true) ∧ Below w.heap.size w w' := by
  have h1 := fun W => specMake_any s t W
  have h2 := fun W => implMake_any s t W
  unfold WPost at h1 h2
  generalize wrT (mkS (readP s.data.toList) (readP t.data.toList)) = x at h1 h2
  generalize wrB (mkS (readP s.data.toList) (readP t.data.toList)) = b at h1 h2
  have h1' := Lib.hid h1
  have h2' := Lib.hid h2
  clear h1 h2
  by_cases hlen : 1048576 < s.size
  · go_enter Try.func4, Try.ntmps4
    go_wp2_with fail
    go_ret
    exact ⟨rfl, (by repeat (with_reducible first | exact hbel | exact Below.refl _ _ | refine Below.drew ?_ | refine Below.drewN ?_ _ | refine Below.alloc ?_ (by first | (simp; done) | (simp; omega) | omega | (have := Below.size hbel; simp; omega) | (have := Below.size hbel; omega)) _ | refine Below.setCell ?_ (by first | (simp; done) | (simp; omega) | omega) _))⟩
  · by_cases hlen2 : 1048576 < t.size
    · go_enter Try.func4, Try.ntmps4
      go_wp2_with fail
      go_ret
      exact ⟨rfl, (by repeat (with_reducible first | exact hbel | exact Below.refl _ _ | refine Below.drew ?_ | refine Below.drewN ?_ _ | refine Below.alloc ?_ (by first | (simp; done) | (simp; omega) | omega | (have := Below.size hbel; simp; omega) | (have := Below.size hbel; omega)) _ | refine Below.setCell ?_ (by first | (simp; done) | (simp; omega) | omega) _))⟩
    · go_enter Try.func4, Try.ntmps4
      go_wp2_with fail
      refine Calls.mono (h1'.out _) ?_
      rintro e w1 ⟨rfl, hb1⟩
      go_wp2_with fail
      refine Calls.mono (h2'.out _) ?_
      rintro e w2 ⟨rfl, hb2⟩
      go_wp2_with fail
      go_ret
      exact ⟨rfl, below_step hb1 (Nat.le_refl _) hb2⟩

end Go.Proofs.Ytaagbnbekfogiaa
