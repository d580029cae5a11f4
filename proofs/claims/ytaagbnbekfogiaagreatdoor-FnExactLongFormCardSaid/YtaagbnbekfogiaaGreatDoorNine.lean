/- spec.l2Apart (of one program alone), spec.l2Canon. The model's chapter 9: trees that are put together, new names. -/
import Derived.Test.YtaagbnbekfogiaaGreatDoorLRen2
import Derived.Test.YtaagbnbekfogiaaGreatDoorFreeS
import Derived.Test.YtaagbnbekfogiaaGreatDoorTextT
import Derived.Test.YtaagbnbekfogiaaGreatDoorSpecL
import Derived.Test.YtaagbnbekfogiaaGreatDoorMathW
import Derived.Deep.RegionHeld3
namespace Go.Proofs.YtaagbnbekfogiaaGreatDoor
set_option linter.unusedVariables false
open Go.RowKit

/-- A program whose heads are short words, and no binders where there is none. -/
def P.hok : P → Bool
  | .nm _ => true
  | .f1 h p => decide (h.length ≤ 4) && decide (h ≠ []) && !(isMu h) && p.hok
  | .f2 h p q => decide (h.length ≤ 4) && decide (h ≠ []) && !(isMu h) && p.hok && q.hok
  | .bd _ b => b.hok
theorem P.ok_hok : ∀ {p : P}, p.ok = true → p.hok = true
  | .nm s, _ => rfl
  | .f1 h p, hk => by
    rw [P.ok, Bool.and_eq_true, decide_eq_true_iff] at hk
    have h1 := hd1_in hk.2
    have h2 := hd1_ne hk.2
    rw [P.hok, P.ok_hok hk.1, decide_eq_true h1.1, decide_eq_true h2.1, h2.2]; rfl
  | .f2 h p q, hk => by
    rw [P.ok, Bool.and_eq_true, Bool.and_eq_true, decide_eq_true_iff] at hk
    have h1 := hd2_in hk.2
    have h2 := hd2_ne hk.2
    rw [P.hok, P.ok_hok hk.1.1, P.ok_hok hk.1.2, decide_eq_true h1.1, decide_eq_true h2.1, h2.2]; rfl
  | .bd s b, hk => by
    rw [P.ok, Bool.and_eq_true, Bool.and_eq_true] at hk
    exact P.ok_hok (p := b) hk.1.2
theorem hok1 {h : Bs} {p : P} (e : (P.f1 h p).hok = true) : h.length ≤ 4 ∧ h ≠ [] ∧ isMu h = false ∧ p.hok = true := by
  rw [P.hok, Bool.and_eq_true, Bool.and_eq_true, Bool.and_eq_true, decide_eq_true_iff, decide_eq_true_iff] at e
  exact ⟨e.1.1.1, e.1.1.2, by simpa using e.1.2, e.2⟩
theorem hok2 {h : Bs} {p q : P} (e : (P.f2 h p q).hok = true) : h.length ≤ 4 ∧ h ≠ [] ∧ isMu h = false ∧ p.hok = true ∧ q.hok = true := by
  rw [P.hok, Bool.and_eq_true, Bool.and_eq_true, Bool.and_eq_true, Bool.and_eq_true, decide_eq_true_iff, decide_eq_true_iff] at e
  exact ⟨e.1.1.1.1, e.1.1.1.2, by simpa using e.1.1.2, e.1.2, e.2⟩
theorem ren_hok (free : List Bs) : ∀ (p : P) (sc : List (Bs × Bs)) (st : St), p.hok = true → (p.ren free stay sc st).1.hok = true := by
  intro p
  induction p with
  | nm s => intro sc st h; rw [ren_nm]; rfl
  | f1 h q ih =>
    intro sc st e
    have e' := hok1 e
    rw [P.ren, P.hok, ih _ _ e'.2.2.2, decide_eq_true e'.1, decide_eq_true e'.2.1, e'.2.2.1]; rfl
  | f2 h q q' ih ih' =>
    intro sc st e
    have e' := hok2 e
    rw [P.ren, P.hok, ih _ _ e'.2.2.2.1, ih' _ _ e'.2.2.2.2, decide_eq_true e'.1, decide_eq_true e'.2.1, e'.2.2.1]; rfl
  | bd s b ih => intro sc st e; rw [P.ren, P.hok]; exact ih _ _ e
theorem nok_length : ∀ {p : P}, p.nok = true → p.hok = true → p.text.length ≤ 25 * p.size
  | .nm s, h, _ => by
    have := nmB_len h
    rw [P.text, P.tree, T.text, P.size]; omega
  | .f1 x p, h, e => by
    rw [P.nok] at h
    have e' := hok1 e
    have h1 := nok_length h e'.2.2.2
    rw [P.text] at h1
    simp [P.text, P.tree, T.text, textAll, P.size]; omega
  | .f2 x p q, h, e => by
    rw [P.nok, Bool.and_eq_true] at h
    have e' := hok2 e
    have h1 := nok_length h.1 e'.2.2.2.1
    have h2 := nok_length h.2 e'.2.2.2.2
    rw [P.text] at h1 h2
    simp [P.text, P.tree, T.text, textAll, P.size]; omega
  | .bd s b, h, e => by
    rw [P.nok, Bool.and_eq_true] at h
    rw [P.hok] at e
    have h1 := nok_length h.2 e
    have := nmB_len h.1
    have := (bhead_in s).1
    rw [P.text] at h1
    simp [P.text, P.tree, T.text, textAll, P.size]; omega
theorem lf_hok : ∀ {p : P}, p.hok = true → p.size ≤ 1000 → LF p
  | .nm s, _, _ => lf_nm s
  | .f1 h p, hk, hs => fun base bb bound acc Ab cb A c w D a q n m ht hD hob hneb ho hb hlb hla => by
    have e := hok1 hk
    rw [P.size] at hs hlb hla
    have H := lf_hok e.2.2.2 (by omega)
    exact lf_form h e.2.2.1 [p] (by simp) (fun q hq => by simp at hq; subst hq; exact H) base bb bound acc Ab cb A c w D a q n m ht hD hob hneb ho hb (by simp [sizesP, sumL]; omega) (by simp [sizesP, sumL]; omega)
  | .f2 h p p', hk, hs => fun base bb bound acc Ab cb A c w D a q n m ht hD hob hneb ho hb hlb hla => by
    have e := hok2 hk
    rw [P.size] at hs hlb hla
    have H := lf_hok e.2.2.2.1 (by omega)
    have H' := lf_hok e.2.2.2.2 (by omega)
    exact lf_form h e.2.2.1 [p, p'] (by simp) (fun q hq => by simp at hq; rcases hq with rfl | rfl; exact H; exact H') base bb bound acc Ab cb A c w D a q n m ht hD hob hneb ho hb (by simp [sizesP, sumL]; omega) (by simp [sizesP, sumL]; omega)
  | .bd s b, hk, hs => by
    rw [P.hok] at hk
    rw [P.size] at hs
    exact lf_bd s b (lf_hok hk (by omega))
theorem lr_hok (r : Nat) (A : Option Addr) (nf cf : Nat) (free : List Bs) (hnf : nf ≤ 90000) : ∀ {p : P}, p.hok = true → LR r A nf cf free p
  | .nm s, _ => lrn_nm r A nf cf free s
  | .f1 h p, hk => fun sc st a0 Af cfr At cto w D a q n m ht hD hnm hf hto hsc hlen hst hbd => by
    have e := hok1 hk
    rw [P.size] at hlen hbd
    have H := lr_hok r A nf cf free hnf e.2.2.2
    exact lrn_form r A nf cf free hnf h e.2.1 e.2.2.1 [p] (by simp) (fun q hq => by simp at hq; subst hq; exact H) sc st a0 Af cfr At cto w D a q n m ht hD hnm hf hto hsc (by simp [szL]; omega) hst (by simp [szL]; omega)
  | .f2 h p p', hk => fun sc st a0 Af cfr At cto w D a q n m ht hD hnm hf hto hsc hlen hst hbd => by
    have e := hok2 hk
    rw [P.size] at hlen hbd
    have H := lr_hok r A nf cf free hnf e.2.2.2.1
    have H' := lr_hok r A nf cf free hnf e.2.2.2.2
    exact lrn_form r A nf cf free hnf h e.2.1 e.2.2.1 [p, p'] (by simp) (fun q hq => by simp at hq; rcases hq with rfl | rfl; exact H; exact H') sc st a0 Af cfr At cto w D a q n m ht hD hnm hf hto hsc (by simp [szL]; omega) hst (by simp [szL]; omega)
  | .bd s b, hk => by
    rw [P.hok] at hk
    exact lrn_bd r A nf cf free hnf s b (lr_hok r A nf cf free hnf hk)

/-- A call hands back a tree of its own, and only makes memory. -/
def CRet (t : T) (w : World) (e : Ending) (w' : World) : Prop :=
  ∃ a p n c, e = .returned (.agg #[.string a, .slice p n c]) ∧ TC w' (New w.heap.size w') t a p n c ∧ Below w.heap.size w w'

set_option maxRecDepth 100000 in
set_option maxHeartbeats 1000000 in
theorem apart0_any {p : P} (hh : p.hok = true) (hs : p.size ≤ 1000) (w : World) (D : Nat → Prop) (a : ByteArray) (q : Option Addr) (n m : Nat) (ht : TC w D p.tree a q n m) (hD : ∀ g, D g → g < w.heap.size) :
    Calls Tryz.prog 43 #[.agg #[.string a, .slice q n m], .slice none 0 0] w (CRet p.canon.tree w) := by
  have hW4 : ∀ W, W = (((w.alloc (.cells #[.string a, .slice q n m] 29)).alloc (.cells #[.string ⟨#[]⟩, .slice none 0 0] 29)).alloc (.cells #[] 9)).alloc (.cells #[] 9) →
      Below w.heap.size w W ∧ W.heap.size = w.heap.size + 4 ∧ W.ownsRow w.heap.size 9 1 (.slice (some ⟨w.heap.size + 1 + 1, 0, none⟩) 0 0) 0 [] ∧ W.ownsRow w.heap.size 9 1 (.slice (some ⟨w.heap.size + 1 + 1 + 1, 0, none⟩) 0 0) 0 [] ∧ W.heap[w.heap.size]? = some (.cells #[.string a, .slice q n m] 29 (0, 0)) ∧ W.heap[w.heap.size + 1]? = some (.cells #[.string ⟨#[]⟩, .slice none 0 0] 29 (0, 0)) := by
    intro W hW
    subst hW
    refine ⟨bb_alloc (bb_alloc (bb_alloc (bb_alloc (Below.refl _ _) _) _) _) _, by simp, ?_, ?_, ?_, ?_⟩
    · have h := (own_empty ((w.alloc (.cells #[.string a, .slice q n m] 29)).alloc (.cells #[.string ⟨#[]⟩, .slice none 0 0] 29)) w.heap.size (by simp; omega) 9).alloc (.cells #[] 9)
      simpa using h
    · have h := own_empty (((w.alloc (.cells #[.string a, .slice q n m] 29)).alloc (.cells #[.string ⟨#[]⟩, .slice none 0 0] 29)).alloc (.cells #[] 9)) w.heap.size (by simp; omega) 9
      simpa using h
    · rw [Below.heap_alloc _ _ _ (by simp; omega), Below.heap_alloc _ _ _ (by simp; omega)]; exact first_alloc w _ _
    · rw [Below.heap_alloc _ _ _ (by simp), Below.heap_alloc _ _ _ (by simp)]; exact second_alloc w _ _
  obtain ⟨hb4, hs4, o2, o3, k0, k1⟩ := hW4 _ rfl
  have hcall := Lib.hid (lf_hok hh hs w.heap.size w.heap.size [] [] (some ⟨w.heap.size + 1 + 1, 0, none⟩) 0 (some ⟨w.heap.size + 1 + 1 + 1, 0, none⟩) 0 _ D a q n m (ht.below hb4 hD) (fun g hg => ⟨by have := hD g hg; omega, fun e => by have := hD g hg; simp [Value.ownBlock] at e; omega⟩) o2
    (fun k hk e => by simp [Value.ownBlock] at hk e; omega) o3 (by omega) (by simp; omega) (by simp; omega))
  have ht' := Lib.hid ht
  have hD' := Lib.hid hD
  have hb4' := Lib.hid hb4
  have k0' := Lib.hid k0
  have k1' := Lib.hid k1
  have hul := p.uses_len
  have hfl := foldl_len p.uses []
  have hsame : Hid (∀ s, s ∈ p.free [] [] ↔ s ∈ p.uses) := fun s => by rw [P.free_top, foldl_mem]; simp
  have hLl : (p.free [] []).length ≤ 1000 := by rw [P.free_top]; simp at hfl; omega
  have hcan : Hid ((p.ren (p.free [] []) stay [] ⟨0, 0⟩).1 = p.canon) := p.canon_free _ hsame.out
  generalize p.free [] [] = L at *
  clear ht hD hb4 hW4 o2 o3 k0 k1 hfl
  go_enter Tryz.func43, Tryz.ntmps43
  go_wp2_with fail
  refine Calls.mono hcall.out ?_
  rintro e w5 ⟨A5, c5, rfl, own5, gr5, mv5⟩
  have hb5 : Hid (Below w.heap.size w w5) := hb4'.out.grown gr5 (by omega) (fun j hj => by simp [Value.ownBlock] at hj; omega)
  have hs5 := gr5.size
  have kk0 := Lib.hid ((gr5.block w.heap.size (by omega) (by simp [Value.ownBlock]; omega)).trans k0'.out)
  have kk1 := Lib.hid ((gr5.block (w.heap.size + 1) (by omega) (by simp [Value.ownBlock])).trans k1'.out)
  have own5' := Lib.hid own5
  obtain ⟨z0, b0, b1, -, -⟩ := two_cells kk0.out
  clear own5 gr5 mv5 hcall k0' k1'
  go_wp2_with fail
  go_loop [5, 6] (fun f i => f = .slice A5 L.length c5 ∧ i = .int .i64 0) (fun _ _ => 0)
  case atStart => exact ⟨rfl, rfl⟩
  case round =>
    obtain ⟨rfl, rfl⟩ := hrel
    have hW7 : ∀ W, W = ((w5.alloc (.cells #[] 9)).alloc (.cells #[] 9)).alloc (.cells #[.slice A5 L.length c5, .int .i64 0, .int .i64 0] 71) →
        Below w5.heap.size w5 W ∧ W.heap.size = w5.heap.size + 3 ∧ NM W (w5.heap.size + 1 + 1) A5 L.length c5 L ⟨0, 0⟩ ∧ NL W (w5.heap.size + 1 + 1) (some ⟨w5.heap.size, 0, none⟩) 0 0 (olds []) ∧ NL W (w5.heap.size + 1 + 1) (some ⟨w5.heap.size + 1, 0, none⟩) 0 0 (news []) := by
      intro W hW
      subst hW
      have hb57 : Below w5.heap.size w5 (((w5.alloc (.cells #[] 9)).alloc (.cells #[] 9)).alloc (.cells #[.slice A5 L.length c5, .int .i64 0, .int .i64 0] 71)) := bb_alloc (bb_alloc (bb_alloc (Below.refl _ _) _) _) _
      refine ⟨hb57, by simp, ⟨?_, (RowS.of_own own5'.out).below hb57, fun h0 a ha => ?_⟩, ⟨⟨0, ?_⟩, fun k hk => by simp [Value.ownBlock] at hk; omega⟩, ⟨⟨0, ?_⟩, fun k hk => by simp [Value.ownBlock] at hk; omega⟩⟩
      · have h := heap_alloc_new ((w5.alloc (.cells #[] 9)).alloc (.cells #[] 9)) (.cells #[.slice A5 L.length c5, .int .i64 0, .int .i64 0] 71)
        simpa using h
      · subst ha
        have := (own5'.out.lt a.block rfl).2
        omega
      · have h := ((own_empty w5 0 (Nat.zero_le _) 9).alloc (.cells #[] 9)).alloc (.cells #[.slice A5 L.length c5, .int .i64 0, .int .i64 0] 71)
        exact h
      · have h := (own_empty (w5.alloc (.cells #[] 9)) 0 (Nat.zero_le _) 9).alloc (.cells #[.slice A5 L.length c5, .int .i64 0, .int .i64 0] 71)
        rw [show (news []).map Value.string = [] from rfl]
        simpa using h
    obtain ⟨hb57, hs7, hnm7, hn1, hn2⟩ := hW7 _ rfl
    have hbw7 := Lib.hid (below_step hb5.out (by omega) hb57)
    have hcall7 := Lib.hid (lr_hok (w5.heap.size + 1 + 1) A5 L.length c5 L (by omega) hh [] ⟨0, 0⟩ 0 (some ⟨w5.heap.size, 0, none⟩) 0 (some ⟨w5.heap.size + 1, 0, none⟩) 0 _ D a q n m (ht'.out.below hbw7.out hD'.out) (fun g hg => ⟨by have := hD'.out g hg; omega, by have := hD'.out g hg; omega⟩) hnm7 hn1 hn2 (fun x hx => by cases hx) (by simp; omega) (stOk_zero _) (by omega))
    have kk7 := Lib.hid ((hb57.block (w.heap.size + 1) (by omega)).trans kk1.out)
    clear hb57 hnm7 hn1 hn2 hW7
    go_wp2_with fail
    refine Calls.mono hcall7.out ?_
    rintro e w8 ⟨u8, v8, m8, d8, rfl, tc8, nm8, gr8⟩
    rw [hcan.out] at tc8
    have hb8 : Hid (Below w.heap.size w w8) := hbw7.out.grown gr8 (by omega) (fun j hj => by injection hj with hj; omega)
    have hs8 := gr8.size
    obtain ⟨e0, e1, e2, e3, e4⟩ := two_cells ((gr8.block (w.heap.size + 1) (by omega) (by intro e; injection e with e; omega)).trans kk7.out)
    have tc8' := Lib.hid tc8
    clear tc8 nm8 gr8 b0 b1
    go_wp2_with fail
    refine bodyPost_ret (v := .agg #[.string u8, .slice v8 m8 d8]) (by simp [results, Tryz.results43, go_sem, e1, e2]) rfl ?_
    have hbel := hb8.out
    refine ⟨_, _, _, _, rfl, TC.keep (fun g' hg' => ?_) (fun g' hg' => ?_) _ _ _ _ _ tc8'.out, (by repeat (with_reducible first | exact hbel | exact Below.refl _ _ | refine Below.drew ?_ | refine Below.drewN ?_ _ | refine Below.alloc ?_ (by first | (simp; done) | (simp; omega) | omega | (have := Below.size hbel; simp; omega) | (have := Below.size hbel; omega)) _ | refine Below.setCell ?_ (by first | (simp; done) | (simp; omega) | omega) _))⟩
    · exact same_set _ _ _ _ _ (by have := hg'.1; omega)
    · have h1 := hg'.1; have h2 := hg'.2; exact ⟨by omega, by simp; omega⟩

theorem P.sz_tree3 : ∀ p : P, p.tree.sz ≤ 3 * p.size
  | .nm s => by rw [P.tree, T.sz, P.size]; omega
  | .f1 x p => by have := p.sz_tree3; simp [P.tree, T.sz, szAll, P.size]; omega
  | .f2 x p q => by have := p.sz_tree3; have := q.sz_tree3; simp [P.tree, T.sz, szAll, P.size]; omega
  | .bd s b => by have := b.sz_tree3; simp [P.tree, T.sz, szAll, P.size]; omega

set_option maxRecDepth 100000 in
set_option maxHeartbeats 1000000 in
theorem l2Canon_any {p : P} (hh : p.hok = true) (hn : p.nok = true) (hs : p.size ≤ 3000) (w : World) (D : Nat → Prop) (a : ByteArray) (q : Option Addr) (n m : Nat) (ht : TC w D p.tree a q n m) (hD : ∀ g, D g → g < w.heap.size) :
    Calls Tryz.prog 19 #[.agg #[.string a, .slice q n m]] w fun e w' => e = .returned (.tuple #[str (writeT p.canon), .bool (writeB p.canon)]) ∧ Below w.heap.size w w' := by
  have hat := Lib.hid (fun W (hW : Below w.heap.size w W) => atoms_all 9001 (by omega) p.tree W D a q n m (by have := p.sz_tree3; omega) (ht.below hW hD) (fun g hg => Nat.lt_of_lt_of_le (hD g hg) hW.size))
  rw [P.atoms_tree] at hat
  by_cases h5 : p.size ≤ 500
  · have hap := Lib.hid (fun W (hW : Below w.heap.size w W) => apart0_any hh (by omega) W D a q n m (ht.below hW hD) (fun g hg => Nat.lt_of_lt_of_le (hD g hg) hW.size))
    have hcn := canon_nok hn (by omega)
    have hch : p.canon.hok = true := ren_hok p.uses p [] ⟨0, 0⟩ hh
    have hcs := p.canon_size
    have htl := nok_length hcn hch
    have htx := Lib.hid (fun W D a q n m (h1 : TC W D p.canon.tree a q n m) (h2 : ∀ g, D g → g < W.heap.size) => text_all 9001 (by omega) p.canon.tree W D a q n m (by have := p.canon.sz_tree3; omega) (by rw [← P.text]; omega) h1 h2)
    rw [← P.text] at htx
    have hrd := Lib.hid (fun W => l2Read_any ⟨p.canon.text.toArray⟩ W)
    rw [show (⟨p.canon.text.toArray⟩ : ByteArray).data.toList = p.canon.text from rfl] at hrd
    have h5' : ¬ (500 : Int) < (p.size : Int) := by omega
    clear ht hD hcn hch htl
    cases hr : readP p.canon.text with
    | none =>
      have e1 : writeB p.canon = false := by simp [writeB, hr]
      have e2 : writeT p.canon = [] := by simp [writeT, e1]
      rw [e1, e2]
      have hr' := Lib.hid hr
      clear hr e1 e2
      generalize p.canon.text = tx at *
      go_enter Tryz.func19, Tryz.ntmps19
      go_wp2_with fail
      refine Calls.mono (hat.out _ ((Below.refl _ _).alloc (Nat.le_refl _) _)) ?_
      rintro e w1 ⟨rfl, hb1⟩
      obtain ⟨z0, b0, b1, -, -⟩ := two_cells ((hb1.block w.heap.size (by simp)).trans (heap_alloc_new w _))
      replace hb1 := below_step ((Below.refl _ _).alloc (Nat.le_refl _) _ : Below w.heap.size w (w.alloc _)) (by simp) hb1
      go_wp2_with fail
      refine Calls.mono (hap.out _ hb1) ?_
      rintro e w2 ⟨u, v, n2, c2, rfl, tc2, hb2⟩
      have hb12 := Lib.hid (below_step hb1 (Nat.le_refl _) hb2)
      go_wp2_with fail
      refine Calls.mono (htx.out _ _ _ _ _ _ tc2 (fun g hg => hg.2)) ?_
      rintro e w3 ⟨rfl, hb3⟩
      have hb13 := Lib.hid (below_step hb12.out (Nat.le_refl _) hb3)
      clear hb1 hb2 hb3 tc2
      go_wp2_with fail
      refine Calls.mono (hrd.out _) ?_
      rintro e w4 ⟨hb4, hp⟩
      have hb14 := Lib.hid (below_step hb13.out (Nat.le_refl _) hb4)
      clear hb4
      rcases hp with ⟨p', a', A', n', c', h1, _⟩ | ⟨a', A', n', c', _, rfl⟩
      · rw [hr'.out] at h1; cases h1
      · go_wp2_with fail
        go_ret2
        exact ⟨rfl, bb_alloc hb14.out _⟩
    | some p2 =>
      have e1 : writeB p.canon = true := by simp [writeB, hr]; omega
      have e2 : writeT p.canon = p.canon.text := by simp [writeT, e1]
      rw [e1, e2]
      have hr' := Lib.hid hr
      clear hr e1 e2
      have hst : str p.canon.text = .string ⟨p.canon.text.toArray⟩ := rfl
      rw [hst]
      clear hst
      generalize p.canon.text = tx at *
      go_enter Tryz.func19, Tryz.ntmps19
      go_wp2_with fail
      refine Calls.mono (hat.out _ ((Below.refl _ _).alloc (Nat.le_refl _) _)) ?_
      rintro e w1 ⟨rfl, hb1⟩
      obtain ⟨z0, b0, b1, -, -⟩ := two_cells ((hb1.block w.heap.size (by simp)).trans (heap_alloc_new w _))
      replace hb1 := below_step ((Below.refl _ _).alloc (Nat.le_refl _) _ : Below w.heap.size w (w.alloc _)) (by simp) hb1
      go_wp2_with fail
      refine Calls.mono (hap.out _ hb1) ?_
      rintro e w2 ⟨u, v, n2, c2, rfl, tc2, hb2⟩
      have hb12 := Lib.hid (below_step hb1 (Nat.le_refl _) hb2)
      go_wp2_with fail
      refine Calls.mono (htx.out _ _ _ _ _ _ tc2 (fun g hg => hg.2)) ?_
      rintro e w3 ⟨rfl, hb3⟩
      have hb13 := Lib.hid (below_step hb12.out (Nat.le_refl _) hb3)
      clear hb1 hb2 hb3 tc2
      go_wp2_with fail
      refine Calls.mono (hrd.out _) ?_
      rintro e w4 ⟨hb4, hp⟩
      have hb14 := Lib.hid (below_step hb13.out (Nat.le_refl _) hb4)
      clear hb4
      rcases hp with ⟨p', a', A', n', c', _, rfl, _⟩ | ⟨a', A', n', c', h1, _⟩
      · go_wp2_with fail
        go_ret2
        exact ⟨rfl, bb_alloc hb14.out _⟩
      · rw [hr'.out] at h1; cases h1
  · have e1 : writeB p.canon = false := by simp [writeB, p.canon_size, h5]
    have e2 : writeT p.canon = [] := by simp [writeT, e1]
    have h5' : (500 : Int) < (p.size : Int) := by omega
    rw [e1, e2]
    clear ht hD e1 e2
    go_enter Tryz.func19, Tryz.ntmps19
    go_wp2_with fail
    refine Calls.mono (hat.out _ ((Below.refl _ _).alloc (Nat.le_refl _) _)) ?_
    rintro e w1 ⟨rfl, hb1⟩
    replace hb1 := below_step ((Below.refl _ _).alloc (Nat.le_refl _) _ : Below w.heap.size w (w.alloc _)) (by simp) hb1
    go_wp2_with fail
    go_ret2
    exact ⟨rfl, hb1⟩

end Go.Proofs.YtaagbnbekfogiaaGreatDoor

namespace Go.Proofs.YtaagbnbekfogiaaGreatDoor
set_option linter.unusedVariables false
open Go.RowKit

/-- A tree that stands somewhere in the world. -/
abbrev LT (w : World) (t : T) (a : ByteArray) (p : Option Addr) (n c : Nat) : Prop := TC w (fun g => g < w.heap.size) t a p n c
def TRet (t : T) (w : World) (e : Ending) (w' : World) : Prop := ∃ a p n c, e = .returned (.agg #[.string a, .slice p n c]) ∧ LT w' t a p n c ∧ Below w.heap.size w w'
theorem lt_atom (w : World) {s : Bs} (hs : s ≠ []) : LT w (.atom s) (bs' s) none 0 0 := ⟨hs, rfl, rfl, rfl, rfl⟩
theorem LT.to {w1 w2 : World} {t : T} {a : ByteArray} {p : Option Addr} {n c : Nat} (h : LT w1 t a p n c) (hb : Below w1.heap.size w1 w2) : LT w2 t a p n c := TC.up h hb
theorem dn_lt1 {w w' : World} {t : T} {a : ByteArray} {p : Option Addr} {n c : Nat} {lo : Nat} (hb : Below w.heap.size w w') (h : TC w' (DN (fun g => g < w.heap.size) lo w') t a p n c) : LT w' t a p n c :=
  TC.keep (fun _ _ => rfl) (fun g hg => by rcases hg with hg | hg; exact Nat.lt_of_lt_of_le hg hb.size; exact hg.2) _ _ _ _ _ h

theorem l1L (h : Bs) (hh : h ≠ []) (x : T) {W : World} {u1 : ByteArray} {v1 : Option Addr} {m1 d1 : Nat} (t1 : LT W x u1 v1 m1 d1) :
    Calls Tryz.prog 20 #[.string ⟨h.toArray⟩, .slice (some ⟨W.heap.size, 0, none⟩) 1 1] (W.alloc (.cells #[.string u1, .slice v1 m1 d1] 29)) (TRet (.node [.atom h, x]) (W.alloc (.cells #[.string u1, .slice v1 m1 d1] 29))) := by
  refine Calls.mono (list1 h hh x (fun g hg => hg) t1) ?_
  rintro e w' ⟨a, p, n, c, rfl, htc, hb⟩
  exact ⟨a, p, n, c, rfl, dn_lt1 (below_step ((Below.refl _ _).alloc (Nat.le_refl _) _ : Below W.heap.size W (W.alloc _)) (by simp) hb) htc, hb⟩
theorem l2L (h : Bs) (hh : h ≠ []) (x y : T) {W : World} {u1 u2 : ByteArray} {v1 v2 : Option Addr} {m1 d1 m2 d2 : Nat} (t1 : LT W x u1 v1 m1 d1) (t2 : LT W y u2 v2 m2 d2) :
    Calls Tryz.prog 20 #[.string ⟨h.toArray⟩, .slice (some ⟨W.heap.size, 0, none⟩) 2 2] (W.alloc (.cells #[.string u1, .slice v1 m1 d1, .string u2, .slice v2 m2 d2] 29)) (TRet (.node [.atom h, x, y]) (W.alloc (.cells #[.string u1, .slice v1 m1 d1, .string u2, .slice v2 m2 d2] 29))) := by
  refine Calls.mono (list2 h hh x y (fun g hg => hg) t1 t2) ?_
  rintro e w' ⟨a, p, n, c, rfl, htc, hb⟩
  exact ⟨a, p, n, c, rfl, dn_lt1 (below_step ((Below.refl _ _).alloc (Nat.le_refl _) _ : Below W.heap.size W (W.alloc _)) (by simp) hb) htc, hb⟩

/-- The model's canonical text of a tree that stands somewhere. -/
theorem canonL {p : P} (hh : p.hok = true) (hn : p.nok = true) (hs : p.size ≤ 3000) {w : World} {a : ByteArray} {q : Option Addr} {n m : Nat} (ht : LT w p.tree a q n m) :
    Calls Tryz.prog 19 #[.agg #[.string a, .slice q n m]] w fun e w' => e = .returned (.tuple #[str (writeT p.canon), .bool (writeB p.canon)]) ∧ Below w.heap.size w w' :=
  l2Canon_any hh hn hs w _ a q n m ht (fun g hg => hg)

/-- The new name for some programs. -/
def newOf (v : Bool) (ps : List P) : Bs := cname v (nxt (ps.flatMap P.uses) v 0)
theorem newOf_ne (v : Bool) (ps : List P) : newOf v ps ≠ [] := by simp [newOf, cname]
theorem flat_len (ps : List P) : (ps.flatMap P.uses).length ≤ szL ps := by
  induction ps with
  | nil => simp [szL]
  | cons p l ih => have := p.uses_len; rw [List.flatMap_cons, List.length_append, szL]; omega
theorem nxt_zero (free : List Bs) (v : Bool) : nxt free v 0 ≤ free.length := by
  have h := (nxt_pot (a := 0) (stOk_zero free v)).1
  have e : (⟨0, 0⟩ : St).get v = 0 := by cases v <;> rfl
  rw [e] at h
  omega
theorem newOf_nm (v : Bool) (ps : List P) (h : szL ps ≤ 90000) : nmB (newOf v ps) = true := by
  have h1 := nxt_zero (ps.flatMap P.uses) v
  have h2 := flat_len ps
  exact nmB_cname (by omega)

end Go.Proofs.YtaagbnbekfogiaaGreatDoor
