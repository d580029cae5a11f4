/- impl.makeProgram and impl.readProgram. -/
import Derived.Test.YtagafoldkfgikaaMakeFo
namespace Go.Proofs.Ytagafoldkfgikaa
set_option linter.unusedVariables false
open Go.RowKit

theorem toP_binder {x : T} {ts : List T} (hm : isMu (atomOf x) = true) : toP (.node (x :: ts)) = binderO (atomOf x) ts := by
  match ts with
  | [] => exact toP_one x
  | [a] => rw [toP_two, if_pos hm]; rfl
  | [a, b] => rw [toP_three, if_pos hm]; rfl
  | _ :: _ :: _ :: _ => exact toP_many ..

theorem MPost.up {o : Option P} {w W w' : World} {e : Ending} (h : MPost o W e w') (hW : Below w.heap.size w W) : MPost o w e w' := by
  obtain ⟨hb, h⟩ := h
  refine ⟨below_step hW (Nat.le_refl _) hb, ?_⟩
  cases o with
  | none => exact h
  | some p =>
    obtain ⟨y, he, hp⟩ := h
    exact ⟨y, he, hp.to (fun g hg => ⟨Nat.le_trans hW.size hg.1, hg.2⟩)⟩

set_option maxRecDepth 100000 in
theorem mp_atom (s : Bs) (w : World) : Calls Try.prog 32 #[.agg #[.string ⟨s.toArray⟩, .slice none 0 0]] w (MPost (toP (.atom s)) w) := by
  have hno := Lib.hid (fun (h : isName s = false) (w' : World) hb => (show MPost (toP (.atom s)) w (.returned (.tuple #[.nilIface, .bool false])) w' from by rw [toP_atom, h]; exact ⟨hb, rfl⟩))
  have hyes := Lib.hid (fun (h : isName s = true) (c : UInt8) (d : Bs) (hs : s = c :: d) (w' : World) (hb : Below w.heap.size w w') => (show MPost (toP (.atom s)) w (.returned (.tuple #[.iface (pt (.nm (c :: d))) (nameV c d), .bool true])) w' from by
    rw [toP_atom, h]; subst hs; exact ⟨hb, _, rfl, c, d, rfl, rfl⟩))
  go_enter Try.func32, Try.ntmps32
  go_wp2_with fail
  refine Calls.mono (readName_any _ _) ?_
  intro e w1 hnp
  obtain ⟨hb1, hcase⟩ := hnp.out rfl
  have hb1' := Lib.hid (below_step ((Below.refl _ _).alloc (Nat.le_refl _) _ : Below w.heap.size w (w.alloc _)) (by simp) hb1)
  clear hnp hb1
  rcases hcase with ⟨hn, rfl⟩ | ⟨hn, c, d, hcd, rfl⟩
  · have hno' := Lib.hid (hno.out hn)
    go_wp2_with fail
    go_ret2
    refine hno'.out _ ?_
    have hbel := hb1'.out
    exact (by repeat (with_reducible first | exact hbel | exact Below.refl _ _ | refine Below.drew ?_ | refine Below.drewN ?_ _ | refine Below.alloc ?_ (by first | (simp; done) | (simp; omega) | omega | (have := Below.size hbel; simp; omega) | (have := Below.size hbel; omega)) _ | refine Below.setCell ?_ (by first | (simp; done) | (simp; omega) | omega) _))
  · have hyes' := Lib.hid (hyes.out hn c d hcd)
    clear hn
    go_wp2_with (go_at_call 45; refine Calls.mono (leaf_any c d _) ?_; rintro e w2 ⟨rfl, hb2⟩)
    go_ret2
    refine hyes'.out _ ?_
    exact below_step (bb_alloc hb1'.out _) (by have := hb1'.out.size; simp) hb2

theorem mp_nil (g c : Nat) (w : World) : Calls Try.prog 32 #[.agg #[.string ⟨#[]⟩, .slice (some ⟨g, 0, none⟩) 0 c]] w (MPost none w) := by
  go_enter Try.func32, Try.ntmps32
  go_wp2_with fail
  refine Calls.mono (readName_any _ _) ?_
  intro e w1 hnp
  obtain ⟨hb1, hcase⟩ := hnp.out (s := []) rfl
  have hb1' := Lib.hid (below_step ((Below.refl _ _).alloc (Nat.le_refl _) _ : Below w.heap.size w (w.alloc _)) (by simp) hb1)
  clear hnp hb1
  rcases hcase with ⟨hn, rfl⟩ | ⟨hn, c, d, hcd, rfl⟩
  · go_wp2_with fail
    go_ret2
    have hbel := hb1'.out
    exact ⟨(by repeat (with_reducible first | exact hbel | exact Below.refl _ _ | refine Below.drew ?_ | refine Below.drewN ?_ _ | refine Below.alloc ?_ (by first | (simp; done) | (simp; omega) | omega | (have := Below.size hbel; simp; omega) | (have := Below.size hbel; omega)) _ | refine Below.setCell ?_ (by first | (simp; done) | (simp; omega) | omega) _)), rfl⟩
  · cases hn

set_option maxRecDepth 100000 in
set_option maxHeartbeats 1000000 in
theorem mp_node (k : Nat) (H : Hid (MP k)) (x : T) (ts : List T) (w : World) (D : Nat → Prop) (p : Option Addr) (c : Nat) (hk : (T.node (x :: ts)).sz ≤ k + 1) (s : ByteArray) (n : Nat) (ht : TC w D (.node (x :: ts)) s p n c) (hD : ∀ g, D g → g < w.heap.size) :
    Calls Try.prog 32 #[.agg #[.string s, .slice p n c]] w (MPost (toP (.node (x :: ts))) w) := by
  obtain ⟨rfl, hn, g, rfl, hg, hp⟩ := ht.part
  obtain ⟨a0, p0, n0, c0, x0, x1, t0⟩ := hp 0 x rfl
  have hgw := hD g hg
  simp only [Nat.zero_mul, Nat.zero_add] at x0 x1
  have hta := t0.text
  have hcap := ht.cap
  have hn' : n = ts.length + 1 := by simpa using hn
  subst hn'
  have hn0 : (((ts.length + 1 : Nat) : Int) == 0) = false := by rw [beq_eq_false_iff_ne]; omega
  have hrest : Parts w D g 2 ts := fun i t hi => by
    obtain ⟨a, p, n, c, h0, h1, h2⟩ := hp (i + 1) t (by simpa using hi)
    exact ⟨a, p, n, c, by rw [show 2 + i * 2 = (i + 1) * 2 from by omega]; exact h0, by rw [show 2 + i * 2 + 1 = (i + 1) * 2 + 1 from by omega]; exact h1, h2⟩
  have hkk : ∀ t ∈ ts, t.sz ≤ k := fun t hm => by
    obtain ⟨i, hi⟩ := List.getElem?_of_mem hm
    have := T.sz_part (ps := x :: ts) (i := i + 1) (t := t) (by simpa using hi)
    omega
  have hD' := Lib.hid hD
  have hka : a0.toList = atomOf x := hta
  clear hp t0 ht hn hta hD
  have hpW : ∀ W, Below w.heap.size w W → Parts W D g 2 ts := fun W hW i t hi => by
    obtain ⟨a, p, n, c, e0, e1, e2⟩ := hrest i t hi
    exact ⟨a, p, n, c, (hW.cell (p := ⟨g, 2 + i * 2, none⟩) hgw).trans e0, (hW.cell (p := ⟨g, 2 + i * 2 + 1, none⟩) hgw).trans e1, e2.below hW hD'.out⟩
  have hDW : ∀ W, Below w.heap.size w W → ∀ g, D g → g < W.heap.size := fun W hW g hg => Nat.lt_of_lt_of_le (hD'.out g hg) hW.size
  have callB : isMu (atomOf x) = true → ∀ W A c', (A = some ⟨g, 2, none⟩ ∨ ts = []) → Below w.heap.size w W → Calls Try.prog 46 #[.string a0, .slice A ts.length c'] W (MPost (toP (.node (x :: ts))) W) := by
    intro hm W A c' hA hW
    rw [toP_binder hm]
    by_cases hl : ts.length = 2
    · have hA2 : A = some ⟨g, 2, none⟩ := by
        rcases hA with h | h
        · exact h
        · rw [h] at hl; simp at hl
      subst hA2
      match ts, hl, hpW W hW, hkk with
      | [a, b], _, hp, hkk =>
        rw [← hka]
        exact makeBinder_two k H a0 a b g c' W D hp (hDW W hW) (Nat.lt_of_lt_of_le hgw hW.size) (hkk b (by simp))
    · rw [binder_len _ hl]
      exact makeBinder_len a0 _ _ _ hl W
  have callF : isMu (atomOf x) = false → ∀ W A c', (A = some ⟨g, 2, none⟩ ∨ ts = []) → Below w.heap.size w W → Calls Try.prog 47 #[.string a0, .slice A ts.length c'] W (MPost (toP (.node (x :: ts))) W) := by
    intro hm W A c' hA hW
    cases hs : shapeL a0.toList with
    | none =>
      rw [toP_head hm (by rw [← hka]; exact hs)]
      exact makeForm_none a0 _ _ _ hs W
    | some r =>
      obtain ⟨k1, d, ks⟩ := r
      by_cases hl : ts.length = ks.length
      · have hA2 : A = some ⟨g, 2, none⟩ := by
          rcases hA with h | h
          · exact h
          · rw [h] at hl
            rcases shape_some hs with ⟨l, rfl, -⟩ | ⟨l, m, rfl, -⟩ <;> simp at hl
        subst hA2
        rw [hl]
        exact makeForm_any k H a0 ts g c' W D (hpW W hW) (hDW W hW) (Nat.lt_of_lt_of_le hgw hW.size) hkk x hka.symm hm hs hl
      · rw [toP_len hm (by rw [← hka]; exact hs) hl]
        exact makeForm_len a0 _ _ _ hs hl W
  have hmB := Lib.hid (fun (h : (a0.toList == [109, 117]) = true ∨ (a0.toList == [116, 109, 117]) = true) => callB (by rw [← hka]; rcases h with h | h <;> simp [isMu, muB, tmuB, eq_of_beq h]))
  have hmF := Lib.hid (fun (h : (a0.toList == [109, 117]) = false) (h' : (a0.toList == [116, 109, 117]) = false) => callF (by rw [← hka]; simp only [isMu, muB, tmuB, h, h']; rfl))
  clear callB callF hpW hDW hka hrest hkk
  generalize toP (.node (x :: ts)) = o at hmB hmF ⊢
  cases h1 : (a0.toList == [109, 117])
  · cases h2 : (a0.toList == [116, 109, 117])
    · have call := Lib.hid (hmF.out h1 h2)
      go_enter Try.func32, Try.ntmps32
      go_wp2_with fail
      go_quiet (fail)
      go_wp2_with fail
      all_goals
        refine Calls.mono (call.out _ _ _ (by first | exact .inl rfl | exact .inr (List.eq_nil_of_length_eq_zero (by omega))) (by exact (by repeat (with_reducible first | exact hbel | exact Below.refl _ _ | refine Below.drew ?_ | refine Below.drewN ?_ _ | refine Below.alloc ?_ (by first | (simp; done) | (simp; omega) | omega | (have := Below.size hbel; simp; omega) | (have := Below.size hbel; omega)) _ | refine Below.setCell ?_ (by first | (simp; done) | (simp; omega) | omega) _)))) ?_
        intro e w1 hm1
        have hm2 := hm1.up (w := w) (by exact (by repeat (with_reducible first | exact hbel | exact Below.refl _ _ | refine Below.drew ?_ | refine Below.drewN ?_ _ | refine Below.alloc ?_ (by first | (simp; done) | (simp; omega) | omega | (have := Below.size hbel; simp; omega) | (have := Below.size hbel; omega)) _ | refine Below.setCell ?_ (by first | (simp; done) | (simp; omega) | omega) _)))
        clear hm1
        cases o with
        | none =>
          obtain ⟨hb2, rfl⟩ := hm2
          go_wp2_with fail
          go_ret2
          exact ⟨hb2, rfl⟩
        | some p =>
          obtain ⟨hb2, y, rfl, hy⟩ := hm2
          have hy' := Lib.hid hy
          clear hy
          go_wp2_with fail
          go_ret2
          exact ⟨hb2, y, rfl, hy'.out⟩
    · have call := Lib.hid (hmB.out (.inr h2))
      go_enter Try.func32, Try.ntmps32
      go_wp2_with fail
      go_quiet (fail)
      go_wp2_with fail
      all_goals
        refine Calls.mono (call.out _ _ _ (by first | exact .inl rfl | exact .inr (List.eq_nil_of_length_eq_zero (by omega))) (by exact (by repeat (with_reducible first | exact hbel | exact Below.refl _ _ | refine Below.drew ?_ | refine Below.drewN ?_ _ | refine Below.alloc ?_ (by first | (simp; done) | (simp; omega) | omega | (have := Below.size hbel; simp; omega) | (have := Below.size hbel; omega)) _ | refine Below.setCell ?_ (by first | (simp; done) | (simp; omega) | omega) _)))) ?_
        intro e w1 hm1
        have hm2 := hm1.up (w := w) (by exact (by repeat (with_reducible first | exact hbel | exact Below.refl _ _ | refine Below.drew ?_ | refine Below.drewN ?_ _ | refine Below.alloc ?_ (by first | (simp; done) | (simp; omega) | omega | (have := Below.size hbel; simp; omega) | (have := Below.size hbel; omega)) _ | refine Below.setCell ?_ (by first | (simp; done) | (simp; omega) | omega) _)))
        clear hm1
        cases o with
        | none =>
          obtain ⟨hb2, rfl⟩ := hm2
          go_wp2_with fail
          go_ret2
          exact ⟨hb2, rfl⟩
        | some p =>
          obtain ⟨hb2, y, rfl, hy⟩ := hm2
          have hy' := Lib.hid hy
          clear hy
          go_wp2_with fail
          go_ret2
          exact ⟨hb2, y, rfl, hy'.out⟩
  · have call := Lib.hid (hmB.out (.inl h1))
    go_enter Try.func32, Try.ntmps32
    go_wp2_with fail
    go_quiet (fail)
    go_wp2_with fail
    all_goals
      refine Calls.mono (call.out _ _ _ (by first | exact .inl rfl | exact .inr (List.eq_nil_of_length_eq_zero (by omega))) (by exact (by repeat (with_reducible first | exact hbel | exact Below.refl _ _ | refine Below.drew ?_ | refine Below.drewN ?_ _ | refine Below.alloc ?_ (by first | (simp; done) | (simp; omega) | omega | (have := Below.size hbel; simp; omega) | (have := Below.size hbel; omega)) _ | refine Below.setCell ?_ (by first | (simp; done) | (simp; omega) | omega) _)))) ?_
      intro e w1 hm1
      have hm2 := hm1.up (w := w) (by exact (by repeat (with_reducible first | exact hbel | exact Below.refl _ _ | refine Below.drew ?_ | refine Below.drewN ?_ _ | refine Below.alloc ?_ (by first | (simp; done) | (simp; omega) | omega | (have := Below.size hbel; simp; omega) | (have := Below.size hbel; omega)) _ | refine Below.setCell ?_ (by first | (simp; done) | (simp; omega) | omega) _)))
      clear hm1
      cases o with
      | none =>
        obtain ⟨hb2, rfl⟩ := hm2
        go_wp2_with fail
        go_ret2
        exact ⟨hb2, rfl⟩
      | some p =>
        obtain ⟨hb2, y, rfl, hy⟩ := hm2
        have hy' := Lib.hid hy
        clear hy
        go_wp2_with fail
        go_ret2
        exact ⟨hb2, y, rfl, hy'.out⟩

theorem mp_all : ∀ k, MP k := by
  intro k
  induction k with
  | zero => intro t w D a p n c hk; have := t.sz_pos; omega
  | succ k ih =>
    intro t w D a p n c hk ht hD
    match t, hk, ht with
    | .atom s, _, ht =>
      rw [TC] at ht
      obtain ⟨hs, rfl, rfl, rfl, rfl⟩ := ht
      exact mp_atom s w
    | .node [], _, ht =>
      obtain ⟨rfl, hn, g, rfl, -, -⟩ := ht.part
      have hn' : n = 0 := hn
      subst hn'
      rw [toP_nil]
      exact mp_nil g c w
    | .node (x :: ts), hk, ht => exact mp_node k ih x ts w D p c hk a n ht hD

/-- What readProgram answers. -/
theorem readProgram_any (s : ByteArray) (w : World) : Calls Try.prog 14 #[.string s] w (MPost (readP s.data.toList) w) := by
  go_enter Try.func14, Try.ntmps14
  go_wp2_with fail
  refine Calls.mono (readText_any s _) ?_
  rintro e w1 ⟨hb1, hp⟩
  have hb1' := Lib.hid hb1
  rcases hp with ⟨t, a, p, l, c, hrd, rfl, htc⟩ | ⟨a, p, l, c, hrd, rfl⟩
  · have hgw : ∀ W, Below w1.heap.size w1 W → Calls Try.prog 32 #[.agg #[.string a, .slice p l c]] W (MPost (toP t) W) := fun W hW =>
      mp_all _ t W _ a p l c (Nat.le_refl _) (htc.below hW (fun g hg => hg.2)) (fun g hg => Nat.lt_of_lt_of_le hg.2 hW.size)
    have hgw' := Lib.hid hgw
    have hbad := Lib.hid (fun h => readP_bad hrd h)
    have hbig := Lib.hid (fun p h => readP_big (p := p) hrd h)
    have hsome := Lib.hid (fun p h => readP_some (p := p) hrd h)
    have hsz := readT_sz hrd
    clear hgw hrd htc hb1
    go_wp2_with fail
    refine Calls.mono (hgw'.out _ (by repeat (with_reducible first | exact hbel | exact Below.refl _ _ | refine Below.drew ?_ | refine Below.drewN ?_ _ | refine Below.alloc ?_ (by first | (simp; done) | (simp; omega) | omega | (have := Below.size hbel; simp; omega) | (have := Below.size hbel; omega)) _ | refine Below.setCell ?_ (by first | (simp; done) | (simp; omega) | omega) _))) ?_
    intro e w2 hm
    cases hP : toP t with
    | none =>
      rw [hP] at hm
      obtain ⟨hb2, rfl⟩ := hm
      have hno := Lib.hid (hbad.out hP)
      clear hP
      go_wp2_with fail
      go_ret2
      rw [hno.out]
      have hbel := below_step (show Below w.heap.size w _ from bb_alloc hb1'.out _) (by have := hb1'.out.size; simp) hb2
      exact ⟨hbel, rfl⟩
    | some q =>
      rw [hP] at hm
      obtain ⟨hb2, y, rfl, hy⟩ := hm
      have hb2' := Lib.hid (below_step (show Below w.heap.size w _ from bb_alloc hb1'.out _) (by have := hb1'.out.size; simp) hb2)
      have hqs : q.size ≤ 9000 := by
        obtain ⟨h1, -⟩ := toP_tree hP
        have h2 := T.atoms_sz t
        rw [h1, P.atoms_tree, ← h1] at h2
        omega
      have mq := fun w => size_m hy w
      have cq := fun x w => size_c q x w
      have hy' := Lib.hid hy
      have hsz2 := Lib.hid (fun W (hW : Below w2.heap.size w2 W) => sizeP_any q (by omega) W _ y (hy.below hW (fun g hg => hg.2)) (fun g hg => Nat.lt_of_lt_of_le hg.2 hW.size))
      have hw12 := hb2.size
      clear hy hb2
      by_cases h5 : q.size ≤ 500
      · have hyes := Lib.hid (hsome.out q hP h5)
        clear hP
        go_wp2_with (refine Calls.mono (hsz2.out _ (Below.refl _ _)) ?_; rintro e w3 ⟨rfl, hb3⟩)
        go_ret2
        rw [hyes.out]
        refine ⟨below_step hb2'.out (Nat.le_refl _) hb3, y, rfl, ?_⟩
        refine (hy'.out.below hb3 (fun g hg => hg.2)).to (fun g hg => ⟨?_, Nat.lt_of_lt_of_le hg.2 hb3.size⟩)
        have := hg.1
        simp at this
        have := hb1'.out.size
        omega
      · have hno := Lib.hid (hbig.out q hP h5)
        clear hP
        go_wp2_with (refine Calls.mono (hsz2.out _ (Below.refl _ _)) ?_; rintro e w3 ⟨rfl, hb3⟩)
        go_ret2
        rw [hno.out]
        exact ⟨below_step hb2'.out (Nat.le_refl _) hb3, rfl⟩
  · have hno := Lib.hid (readP_none hrd)
    clear hrd hb1
    go_wp2_with fail
    go_ret2
    rw [hno.out]
    have hbel := hb1'.out
    exact ⟨(by repeat (with_reducible first | exact hbel | exact Below.refl _ _ | refine Below.drew ?_ | refine Below.drewN ?_ _ | refine Below.alloc ?_ (by first | (simp; done) | (simp; omega) | omega | (have := Below.size hbel; simp; omega) | (have := Below.size hbel; omega)) _ | refine Below.setCell ?_ (by first | (simp; done) | (simp; omega) | omega) _)), rfl⟩

end Go.Proofs.Ytagafoldkfgikaa
