/- The reader of the model: spec.l1Read hands back what the plain function 'rd' says. -/
import Derived.Test.YtaagbnbekfogiaaGreatDoorRead
namespace Go.Proofs.YtaagbnbekfogiaaGreatDoor
set_option linter.unusedVariables false
open Go.RowKit

def RPost (r : Bs → Option (T × Bs)) (s : ByteArray) (i : Nat) (w : World) (e : Ending) (w' : World) : Prop :=
  Below w.heap.size w w' ∧
    ((∃ t q a p l c, r (s.data.toList.drop i) = some (t, q) ∧ e = .returned (.tuple #[.agg #[.string a, .slice p l c], .int .i64 ((s.size - q.length : Nat) : Int)]) ∧ TC w' (New w.heap.size w') t a p l c) ∨
     (∃ a p l c, r (s.data.toList.drop i) = none ∧ e = .returned (.tuple #[.agg #[.string a, .slice p l c], .int .i64 (-1)])))

theorem read_deep (s : ByteArray) (i d : Nat) (w : World) (hd : 200 < d) (hd2 : d ≤ 300) :
    Calls Tryz.prog 69 #[.string s, .int .i64 i, .int .i64 d] w (RPost (fun _ => none) s i w) := by
  have fin : ∀ w', Below w.heap.size w w' → RPost (fun _ => none) s i w (.returned (.tuple #[.agg #[.string ⟨#[]⟩, .slice none 0 0], .int .i64 (-1)])) w' :=
    fun w' hb => ⟨hb, .inr ⟨_, _, _, _, rfl, rfl⟩⟩
  have fin' := Lib.hid fin
  clear fin
  go_enter Tryz.func69, Tryz.ntmps69
  go_wp2_with fail
  refine bodyPost_ret (v := .tuple #[.agg #[.string ⟨#[]⟩, .slice none 0 0], .int .i64 (-1)]) (by simp [results, Tryz.results69, go_sem]) rfl ?_
  exact fin'.out _ (by repeat (with_reducible first | exact hbel | exact Below.refl _ _ | refine Below.drew ?_ | refine Below.drewN ?_ _ | refine Below.alloc ?_ (by first | (simp; done) | (simp; omega) | omega | (have := Below.size hbel; simp; omega) | (have := Below.size hbel; omega)) _ | refine Below.setCell ?_ (by first | (simp; done) | (simp; omega) | omega) _))

theorem read_end (n : Nat) (s : ByteArray) (i d : Nat) (w : World) (hd : d ≤ 300) (hi : s.size ≤ i) :
    Calls Tryz.prog 69 #[.string s, .int .i64 i, .int .i64 d] w (RPost (rd n) s i w) := by
  have fin : ∀ w', Below w.heap.size w w' → RPost (rd n) s i w (.returned (.tuple #[.agg #[.string ⟨#[]⟩, .slice none 0 0], .int .i64 (-1)])) w' :=
    fun w' hb => ⟨hb, .inr ⟨_, _, _, _, by rw [List.drop_eq_nil_of_le (by rw [← ba_size]; exact hi)]; cases n <;> rfl, rfl⟩⟩
  have fin' := Lib.hid fin
  clear fin
  go_enter Tryz.func69, Tryz.ntmps69
  go_wp2_with fail
  all_goals
    refine bodyPost_ret (v := .tuple #[.agg #[.string ⟨#[]⟩, .slice none 0 0], .int .i64 (-1)]) (by simp [results, Tryz.results69, go_sem]) rfl ?_
    exact fin'.out _ (by repeat (with_reducible first | exact hbel | exact Below.refl _ _ | refine Below.drew ?_ | refine Below.drewN ?_ _ | refine Below.alloc ?_ (by first | (simp; done) | (simp; omega) | omega | (have := Below.size hbel; simp; omega) | (have := Below.size hbel; omega)) _ | refine Below.setCell ?_ (by first | (simp; done) | (simp; omega) | omega) _))

def twLen (s : ByteArray) (i : Nat) : Nat := ((s.data.toList.drop i).takeWhile atomB).length

theorem twLen_le (s : ByteArray) (i : Nat) (hi : i ≤ s.size) : i + twLen s i ≤ s.size := by
  have h := tw_le (p := atomB) (l := s.data.toList.drop i)
  rw [List.length_drop, ← ba_size] at h
  unfold twLen; omega
theorem twLen_step {s : ByteArray} {i j : Nat} (h1 : i ≤ j) (h2 : j ≤ i + twLen s i) (hj : j < s.size) (hb : atomB s[j] = true) : j + 1 ≤ i + twLen s i := by
  have hj' : j - i < (s.data.toList.drop i).length := by rw [List.length_drop, ← ba_size]; omega
  have h := tw_step (p := atomB) (l := s.data.toList.drop i) (k := j - i) (by unfold twLen at h2; omega) hj' (by
    rw [List.getElem_drop, ← hb, ← ba_get s j hj (by rw [← ba_size]; exact hj)]
    congr 2
    omega)
  unfold twLen; omega
theorem twLen_stop {s : ByteArray} {i j : Nat} (h1 : i ≤ j) (h2 : j ≤ i + twLen s i) (hj : j < s.size) (hb : atomB s[j] = false) : twLen s i = j - i := by
  have hj' : j - i < (s.data.toList.drop i).length := by rw [List.length_drop, ← ba_size]; omega
  exact tw_stop (p := atomB) (l := s.data.toList.drop i) (k := j - i) (by unfold twLen at h2; omega) hj' (by
    rw [List.getElem_drop, ← hb, ← ba_get s j hj (by rw [← ba_size]; exact hj)]
    congr 2
    omega)
theorem twLen_end {s : ByteArray} {i j : Nat} (h1 : i ≤ j) (h2 : j ≤ i + twLen s i) (hj : s.size ≤ j) : twLen s i = j - i :=
  tw_end (p := atomB) (l := s.data.toList.drop i) (k := j - i) (by unfold twLen at h2; omega) (by rw [List.length_drop, ← ba_size]; omega)

theorem headIs_drop (s : ByteArray) (i : Nat) (c : UInt8) (hi : i < s.size) : headIs c (s.data.toList.drop i) = decide (s[i] = c) := by
  rw [List.drop_eq_getElem_cons (by rw [← ba_size]; exact hi), ba_get s i hi]
  rw [Bool.eq_iff_iff]; simp [headIs]

set_option maxRecDepth 100000 in
theorem read_atom (n : Nat) (s : ByteArray) (i d : Nat) (w : World) (hd : d ≤ 200) (hi : i < s.size) (hs : s.size ≤ 9000) (hne : s[i] ≠ 40) :
    Calls Tryz.prog 69 #[.string s, .int .i64 i, .int .i64 d] w (RPost (rd n) s i w) := by
  have hb40 : (((s[i].toNat : Int) != 40)) = true := by
    rw [bne_iff_ne]
    intro e
    exact hne (UInt8.toNat_inj.1 (by simpa using (by exact_mod_cast e : s[i].toNat = 40)))
  have hh : headIs 40 (s.data.toList.drop i) = false := by rw [headIs_drop s i 40 hi]; simpa using hne
  have yes : ∀ j w', j = i + twLen s i → i < j → Below w.heap.size w w' → RPost (rd n) s i w (.returned (.tuple #[.agg #[.string (s.extract i j), .slice none 0 0], .int .i64 j])) w' := by
    intro j w' hj hij hb
    subst hj
    refine ⟨hb, .inl ⟨.atom ((s.data.toList.drop i).takeWhile atomB), _, s.extract i (i + twLen s i), none, 0, 0, by rw [rd_atom hh]; exact rdAtom_some (by unfold twLen at hij; omega), ?_, ?_, ?_, rfl, rfl, rfl⟩⟩
    · have hl : ((s.data.toList.drop i).dropWhile atomB).length + twLen s i = s.size - i := by
        have h := congrArg List.length (List.takeWhile_append_dropWhile (p := atomB) (l := s.data.toList.drop i))
        rw [List.length_append, List.length_drop, ← ba_size] at h
        unfold twLen; omega
      have hle := twLen_le s i (by omega)
      rw [show s.size - ((s.data.toList.drop i).dropWhile atomB).length = i + twLen s i from by omega]
    · intro e; unfold twLen at hij; rw [e] at hij; simp at hij
    · rw [ba_extract]
      unfold twLen
      rw [Nat.add_sub_cancel_left, tw_take]
  have no : ∀ a w', twLen s i = 0 → Below w.heap.size w w' → RPost (rd n) s i w (.returned (.tuple #[.agg #[.string a, .slice none 0 0], .int .i64 (-1)])) w' := by
    intro a w' hj hb
    exact ⟨hb, .inr ⟨_, _, _, _, by rw [rd_atom hh]; exact rdAtom_none hj, rfl⟩⟩
  have yes' := Lib.hid yes
  have no' := Lib.hid no
  have htw := twLen_le s i (by omega)
  clear yes no hh hne
  have hdec : decide ((200 : Int) < (d : Int)) = false := by simp; omega
  have hdec2 : decide (s.size ≤ i) = false := by simp; omega
  go_enter Tryz.func69, Tryz.ntmps69
  go_wp2_with fail
  go_loop [1] (fun c => ∃ j : Nat, i ≤ j ∧ j ≤ i + twLen s i ∧ c = .int .i64 j) (fun c => s.size - (intOf c).toNat)
  case atStart => exact ⟨i, Nat.le_refl _, by omega, rfl⟩
  case round =>
    obtain ⟨j, hij, hj, rfl⟩ := hrel
    have stop : (s.size ≤ j ∨ ∃ h : j < s.size, atomB s[j] = false) ∨ ∃ h : j < s.size, atomB s[j] = true := by
      by_cases h : j < s.size
      · cases hb : atomB s[j]
        · exact .inl (.inr ⟨h, hb⟩)
        · exact .inr ⟨h, hb⟩
      · exact .inl (.inl (by omega))
    rcases stop with stop | ⟨hlt, hb⟩
    · have hjj : twLen s i = j - i := by
        rcases stop with h | ⟨h, hb⟩
        · exact twLen_end hij hj h
        · exact twLen_stop hij hj h hb
      have hjj' := Lib.hid hjj
      clear hjj
      by_cases hlt : j < s.size
      · have hb : atomB s[j] = false := by
          rcases stop with h | ⟨h, hb⟩
          · omega
          · exact hb
        go_wp2_with (go_at_call 92; refine (byte_any _ _).mono ?_; rintro e w' ⟨rfl, rfl⟩)
        · have he : (s.extract i j).toList.isEmpty = true := by assumption
          have h0 := ba_empty (by omega) he
          refine bodyPost_ret (v := .tuple #[.agg #[.string (s.extract i j), .slice none 0 0], .int .i64 (-1)]) (by simp [results, Tryz.results69, go_sem]) rfl ?_
          exact no'.out _ _ (by have := hjj'.out; omega) (by repeat (with_reducible first | exact hbel | exact Below.refl _ _ | refine Below.drew ?_ | refine Below.drewN ?_ _ | refine Below.alloc ?_ (by first | (simp; done) | (simp; omega) | omega | (have := Below.size hbel; simp; omega) | (have := Below.size hbel; omega)) _ | refine Below.setCell ?_ (by first | (simp; done) | (simp; omega) | omega) _))
        · have he : (s.extract i j).toList.isEmpty = false := by assumption
          have h0 := ba_not_empty he
          refine bodyPost_ret (v := .tuple #[.agg #[.string (s.extract i j), .slice none 0 0], .int .i64 j]) (by simp [results, Tryz.results69, go_sem]) rfl ?_
          exact yes'.out _ _ (by have := hjj'.out; omega) h0 (by repeat (with_reducible first | exact hbel | exact Below.refl _ _ | refine Below.drew ?_ | refine Below.drewN ?_ _ | refine Below.alloc ?_ (by first | (simp; done) | (simp; omega) | omega | (have := Below.size hbel; simp; omega) | (have := Below.size hbel; omega)) _ | refine Below.setCell ?_ (by first | (simp; done) | (simp; omega) | omega) _))
      · go_wp2_with fail
        · have he : (s.extract i j).toList.isEmpty = true := by assumption
          have h0 := ba_empty (by omega) he
          refine bodyPost_ret (v := .tuple #[.agg #[.string (s.extract i j), .slice none 0 0], .int .i64 (-1)]) (by simp [results, Tryz.results69, go_sem]) rfl ?_
          exact no'.out _ _ (by have := hjj'.out; omega) (by repeat (with_reducible first | exact hbel | exact Below.refl _ _ | refine Below.drew ?_ | refine Below.drewN ?_ _ | refine Below.alloc ?_ (by first | (simp; done) | (simp; omega) | omega | (have := Below.size hbel; simp; omega) | (have := Below.size hbel; omega)) _ | refine Below.setCell ?_ (by first | (simp; done) | (simp; omega) | omega) _))
        · have he : (s.extract i j).toList.isEmpty = false := by assumption
          have h0 := ba_not_empty he
          refine bodyPost_ret (v := .tuple #[.agg #[.string (s.extract i j), .slice none 0 0], .int .i64 j]) (by simp [results, Tryz.results69, go_sem]) rfl ?_
          exact yes'.out _ _ (by have := hjj'.out; omega) h0 (by repeat (with_reducible first | exact hbel | exact Below.refl _ _ | refine Below.drew ?_ | refine Below.drewN ?_ _ | refine Below.alloc ?_ (by first | (simp; done) | (simp; omega) | omega | (have := Below.size hbel; simp; omega) | (have := Below.size hbel; omega)) _ | refine Below.setCell ?_ (by first | (simp; done) | (simp; omega) | omega) _))
    · go_wp2_with (go_at_call 92; refine (byte_any _ _).mono ?_; rintro e w' ⟨rfl, rfl⟩)
      go_round
      case rel => exact ⟨j + 1, by omega, twLen_step hij hj hlt hb, by go_num⟩
      case measure => simp [intOf]; omega

theorem infoTree : (Tryz.prog.info? 29).map (fun i => (i.zero, i.size, i.bytes)) = some (some (.agg #[.string ⟨#[]⟩, .slice none 0 0]), 2, 40) := by kernel_rfl

/-- What a round of the model's reader begins with. -/
structure ReadRel (r : Bs → Option (T × Bs)) (s : ByteArray) (i : Nat) (w : World) (p : Nat) (wr : World) (v : Value) (acc : List T) (xs : List Value) (k : Nat) : Prop where
  lo : i ≤ p
  hi : p < s.size
  fuel : s.size < k + p + 1
  same : rdLoop r k (s.data.toList.drop (p + 1)) acc = rdLoop r (s.size - i) (s.data.toList.drop (i + 1)) []
  own : wr.ownsRow (w.heap.size + 2) 29 2 v acc.length xs
  kids : Kids wr (fun g => New (w.heap.size + 2) wr g ∧ v.ownBlock ≠ some g) acc xs
  below : Below w.heap.size w wr
  res : wr.heap[w.heap.size]? = some (.cells #[.string ⟨#[]⟩, .slice none 0 0] 29 (0, 0))
  out : wr.heap[w.heap.size + 1]? = some (.cells #[.string ⟨#[]⟩, v] 29 (0, 0))
  few : acc.length ≤ p

def nodeOf (r : Bs → Option (T × Bs)) (s : ByteArray) (i : Nat) : Bs → Option (T × Bs) := fun _ => rdNode (rdLoop r (s.size - i) (s.data.toList.drop (i + 1)) [])

set_option maxRecDepth 100000 in
theorem read_node (r : Bs → Option (T × Bs)) (hr : Shorter r) (s : ByteArray) (d : Nat)
    (ih : ∀ (i : Nat) (w : World), i < s.size → Calls Tryz.prog 69 #[.string s, .int .i64 ((i : Int) + 1), .int .i64 ((d : Int) + 1)] w (RPost r s (i + 1) w))
    (i : Nat) (w : World) (hd : d ≤ 200) (hi : i < s.size) (hs : s.size ≤ 9000) (heq : s[i] = 40) :
    Calls Tryz.prog 69 #[.string s, .int .i64 i, .int .i64 d] w (RPost (nodeOf r s i) s i w) := by
  have IH := Lib.hid ih
  clear ih
  obtain ⟨i0, hi0, hz0, hz1, hz2⟩ := info_parts infoTree
  have hb40 : (((s[i].toNat : Int) != 40)) = false := by rw [heq]; rfl
  clear heq
  have hdec : decide ((200 : Int) < (d : Int)) = false := by simp; omega
  have hdec2 : decide (s.size ≤ i) = false := by simp; omega
  go_enter Tryz.func69, Tryz.ntmps69
  go_wp2_with fail
  go_loopw [1] (fun c wr => ∃ p v acc xs k, c = .int .i64 (p : Nat) ∧ ReadRel r s i w p wr v acc xs k) (fun c _ => s.size - (intOf c).toNat)
  case atStart => exact ⟨i, .slice none 0 0, [], [], s.size - i, rfl, ⟨Nat.le_refl _, hi, by omega, rfl, World.ownsRow_nil _ _ _ _, rfl, (by repeat (with_reducible first | exact hbel | exact Below.refl _ _ | refine Below.drew ?_ | refine Below.drewN ?_ _ | refine Below.alloc ?_ (by first | (simp; done) | (simp; omega) | omega | (have := Below.size hbel; simp; omega) | (have := Below.size hbel; omega)) _ | refine Below.setCell ?_ (by first | (simp; done) | (simp; omega) | omega) _)), first_alloc _ _ _, second_alloc _ _ _, Nat.zero_le _⟩⟩
  case round =>
    obtain ⟨p, v, acc, xs, k, rfl, R⟩ := hrel
    have hp := R.hi
    go_wp2_with fail
    refine (IH.out p _ hp).mono ?_
    rintro e w1 ⟨hb1, hq⟩
    obtain ⟨A, m, cp, rfl⟩ := own_form R.own
    obtain ⟨z0, r0, r1, f0, f1⟩ := two_cells ((hb1.block _ (two_cells R.res).1).trans R.res)
    obtain ⟨z1, o0, o1, g0, g1⟩ := two_cells ((hb1.block _ (two_cells R.out).1).trans R.out)
    have bad : ∀ A m c w3, rdLoop r k (s.data.toList.drop (p + 1)) acc = none → Below w.heap.size w w3 → RPost (nodeOf r s i) s i w (.returned (.tuple #[.agg #[.string ⟨#[]⟩, .slice A m c], .int .i64 (-1)])) w3 := by
      intro A m c w3 hno hb3
      exact ⟨hb3, .inr ⟨_, _, _, _, by rw [nodeOf, ← R.same, hno]; rfl, rfl⟩⟩
    have bad' := Lib.hid bad
    clear bad
    have hbel1 := Lib.hid (R.below.trans (hb1.mono R.below.size))
    rcases hq with ⟨t, q, a, p', l, c, hrd, rfl, htc⟩ | ⟨a, p', l, c, hrd, rfl⟩
    · obtain ⟨hql, hqd⟩ := suffix_drop hr (by rw [← ba_size]; omega) hrd
      rw [← ba_size] at hql hqd
      generalize he : s.size - q.length = e at hqd
      have hq0 : q = [] ∨ q ≠ [] := Classical.em _
      rcases hq0 with hq0 | hq0
      · have hno := Lib.hid (rdLoop_bad (k := k) (acc := acc) hrd (by rw [hq0]; rfl) (by rw [hq0]; rfl))
        have hes : e = s.size := by rw [← he, hq0]; rfl
        clear hrd hqd he hql R hb1 htc
        subst hes
        go_wp2_with fail
        refine bodyPost_ret (v := .tuple #[.agg #[.string ⟨#[]⟩, .slice A m cp], .int .i64 (-1)]) (by simp [results, Tryz.results69, go_sem, r0, r1, z0]) rfl ?_
        have hbel := hbel1.out
        exact bad'.out _ _ _ _ hno.out (by repeat (with_reducible first | exact hbel | exact Below.refl _ _ | refine Below.drew ?_ | refine Below.drewN ?_ _ | refine Below.alloc ?_ (by first | (simp; done) | (simp; omega) | omega | (have := Below.size hbel; simp; omega) | (have := Below.size hbel; omega)) _ | refine Below.setCell ?_ (by first | (simp; done) | (simp; omega) | omega) _))
      · have hes : e < s.size := by
          have : q.length ≠ 0 := by simpa using hq0
          omega
        have hqc : q = s[e] :: s.data.toList.drop (e + 1) := by
          rw [hqd, List.drop_eq_getElem_cons (by rw [← ba_size]; exact hes), ba_get s e hes]
        have own1 := own_below R.own hb1
        have hpe : p < e := by omega
        go_wp2_with (first
          | (at_builtin; go_loud (refine wpList_append_lies _ rfl (.tmp 69) (.tmp 71) 27 rfl (w.heap.size + 2) 29 i0 _ 2 40 Tryz.underlying27 hi0 hz0 hz1 hz2 rfl (by decide) _ _ _ rfl ((own1.alloc _).alloc _) ⟨w1.heap.size + 1, 0, none⟩ 1 1 [.string a, .slice p' l c] rfl rfl ?c1 ?c2 (by decide) ?c3 ?c4 ?c5 _ rfl ?_))
          | fail)
        case c1 => exact World.news_of_block (cs := #[.string a, .slice p' l c]) (second_alloc _ _ _)
        case c2 => intro u hu; simp at hu; rcases hu with rfl | rfl <;> rfl
        case c3 => have := R.few; unfold maxLen; omega
        case c4 => have := R.few; omega
        case c5 => simp; omega
        intro g cap w2 hown2 hgrow hat hlt
        have hW : Below w1.heap.size w1 ((w1.alloc (Obj.cells #[Value.string a, Value.slice p' l c] 29)).alloc (Obj.cells #[Value.string a, Value.slice p' l c] 29)) := ((Below.refl _ _).alloc (Nat.le_refl _) _).alloc (by simp) _
        have hkids := kids_step (m := acc.length + 1) (cap := cap) (two_cells R.out).1 R.own R.kids hb1 htc hW hgrow (by rcases hat with h | h; exact .inl h; exact .inr (by rw [h]; simp))
        have hbel : Below w.heap.size w w2 := ((R.below.trans (hb1.mono R.below.size)).trans (hW.mono (by have := hb1.size; have := R.below.size; omega))).grown hgrow (by simp; omega) (fun j hj => by have := R.own.lt j hj; omega)
        have hres : w2.heap[w.heap.size]? = some (.cells #[.string ⟨#[]⟩, .slice none 0 0] 29 (0, 0)) := by
          rw [hgrow.block _ (by simp; omega) (fun e => by have := R.own.lt _ e.symm; omega), hW.block _ z0, hb1.block _ (two_cells R.res).1]
          exact R.res
        have hout : w2.heap[w.heap.size + 1]? = some (.cells #[.string ⟨#[]⟩, .slice A m cp] 29 (0, 0)) := by
          rw [hgrow.block _ (by simp; omega) (fun e => by have := R.own.lt _ e.symm; omega), hW.block _ z1, hb1.block _ (two_cells R.out).1]
          exact R.out
        have hk1 : ∃ k', k = k' + 1 := ⟨k - 1, by have := R.fuel; omega⟩
        have fin : ∀ w3, w3.heap.size = w2.heap.size → (∀ j, j ≠ w.heap.size → j ≠ w.heap.size + 1 → w3.heap[j]? = w2.heap[j]?) → Below w.heap.size w w3 → s[e] = 41 →
            RPost (nodeOf r s i) s i w (.returned (.tuple #[.agg #[.string ⟨#[]⟩, .slice (some ⟨g, 0, none⟩) (acc.length + 1) cap], .int .i64 ((e : Int) + 1)])) w3 := by
          intro w3 hsz hsm hb3 h41
          obtain ⟨k', rfl⟩ := hk1
          rw [hqc, h41] at hrd
          refine ⟨hb3, .inl ⟨.node (acc ++ [t]), s.data.toList.drop (e + 1), ⟨#[]⟩, some ⟨g, 0, none⟩, acc.length + 1, cap, ?_, ?_, ?_⟩⟩
          · rw [nodeOf, ← R.same, rdLoop_close hrd]; rfl
          · rw [show s.size - (s.data.toList.drop (e + 1)).length = e + 1 from by rw [List.length_drop, ← ba_size]; omega]; rfl
          · refine TC.keep (fun j hj => hsm j (by have := hj.1; omega) (by have := hj.1; omega)) (fun j hj => ⟨by have := hj.1; omega, by rw [hsz]; exact hj.2⟩) _ _ _ _ _ (tc_node (Nat.le_refl _) hown2 (by simp) hkids)
        have bad2 : ∀ w3 A m c, s[e] ≠ 41 → s[e] ≠ 32 → Below w.heap.size w w3 →
            RPost (nodeOf r s i) s i w (.returned (.tuple #[.agg #[.string ⟨#[]⟩, .slice A m c], .int .i64 (-1)])) w3 := by
          intro w3 A m c h1 h2 hb3
          exact bad'.out _ _ _ _ (rdLoop_bad hrd (by rw [hqc]; simpa [headIs] using h1) (by rw [hqc]; simpa [headIs] using h2)) hb3
        have next : ∀ w3, w3.heap.size = w2.heap.size → (∀ j, j ≠ w.heap.size + 1 → w3.heap[j]? = w2.heap[j]?) → Below w.heap.size w w3 →
            w3.heap[w.heap.size + 1]? = some (.cells #[.string ⟨#[]⟩, .slice (some ⟨g, 0, none⟩) (acc.length + 1) cap] 29 (0, 0)) → s[e] = 32 →
            ∃ k', ReadRel r s i w e w3 (.slice (some ⟨g, 0, none⟩) (acc.length + 1) cap) (acc ++ [t]) (xs ++ [.string a, .slice p' l c]) k' := by
          intro w3 hsz hsm hb3 ho h32
          obtain ⟨k', rfl⟩ := hk1
          rw [hqc, h32] at hrd
          have hg := hown2.lt g rfl
          refine ⟨k', ⟨by have := R.lo; omega, hes, by have := R.fuel; omega, ?_, ?_, ?_, hb3, ?_, ho, ?_⟩⟩
          · rw [← R.same, rdLoop_on hrd]
          · rw [List.length_append]
            exact own_same hown2 (fun j hj => hsm j (by have := hown2.lt j hj; omega))
          · exact Kids.keep (fun j hj => hsm j (by have := hj.1.1; omega)) (fun j hj => ⟨⟨hj.1.1, by rw [hsz]; exact hj.1.2⟩, hj.2⟩) _ _ hkids
          · rw [hsm _ (by omega)]; exact hres
          · have := R.few; rw [List.length_append]; simp; omega
        have fin' := Lib.hid fin
        have bad2' := Lib.hid bad2
        have next' := Lib.hid next
        have hout' := Lib.hid hout
        obtain ⟨y0, r0, r1, f0, f1⟩ := two_cells hres
        obtain ⟨y1, o0, o1, g0, g1⟩ := two_cells hout
        have hbel' := Lib.hid hbel
        clear fin bad2 next hk1 hkids hbel hres hout hown2 hgrow hat hW own1 R htc hb1 hrd hqc hqd he hql hq0
        by_cases h41 : s[e] = 41
        · have b41 : (((s[e].toNat : Int) == 41)) = true := by rw [h41]; rfl
          have h41' := Lib.hid h41
          clear h41
          go_wp2_with fail
          refine bodyPost_ret (v := .tuple #[.agg #[.string ⟨#[]⟩, .slice (some ⟨g, 0, none⟩) (acc.length + 1) cap], .int .i64 ((e : Int) + 1)]) (by simp [results, Tryz.results69, go_sem, r0, r1]) rfl ?_
          refine fin'.out _ ?_ ?_ ?_ h41'.out
          · simp
          · intro j hj hj2
            rw [Below.heap_setCell _ _ _ _ hj, Below.heap_setCell _ _ _ _ hj, Below.heap_setCell _ _ _ _ hj2]
          · have hbel := hbel'.out
            exact (by repeat (with_reducible first | exact hbel | exact Below.refl _ _ | refine Below.drew ?_ | refine Below.drewN ?_ _ | refine Below.alloc ?_ (by first | (simp; done) | (simp; omega) | omega | (have := Below.size hbel; simp; omega) | (have := Below.size hbel; omega)) _ | refine Below.setCell ?_ (by first | (simp; done) | (simp; omega) | omega) _))
        · have b41 : (((s[e].toNat : Int) == 41)) = false := by
            rw [beq_eq_false_iff_ne]
            intro e2
            exact h41 (UInt8.toNat_inj.1 (by simpa using (by exact_mod_cast e2 : s[e].toNat = 41)))
          by_cases h32 : s[e] = 32
          · have b32 : (((s[e].toNat : Int) != 32)) = false := by rw [h32]; rfl
            have h41' := Lib.hid h41
            have h32' := Lib.hid h32
            clear h41 h32
            go_wp2_with fail
            go_roundw
            case rel =>
              obtain ⟨k', R'⟩ := next'.out _ (by simp) (fun j hj => Below.heap_setCell _ _ _ _ hj) (by have hbel := hbel'.out; exact (by repeat (with_reducible first | exact hbel | exact Below.refl _ _ | refine Below.drew ?_ | refine Below.drewN ?_ _ | refine Below.alloc ?_ (by first | (simp; done) | (simp; omega) | omega | (have := Below.size hbel; simp; omega) | (have := Below.size hbel; omega)) _ | refine Below.setCell ?_ (by first | (simp; done) | (simp; omega) | omega) _))) (set_second hout'.out) h32'.out
              exact ⟨e, _, _, _, k', rfl, R'⟩
            case measure => simp [intOf]; omega
          · have b32 : (((s[e].toNat : Int) != 32)) = true := by
              rw [bne_iff_ne]
              intro e2
              exact h32 (UInt8.toNat_inj.1 (by simpa using (by exact_mod_cast e2 : s[e].toNat = 32)))
            have h41' := Lib.hid h41
            have h32' := Lib.hid h32
            clear h41 h32
            go_wp2_with fail
            refine bodyPost_ret (v := .tuple #[.agg #[.string ⟨#[]⟩, .slice (some ⟨g, 0, none⟩) (acc.length + 1) cap], .int .i64 (-1)]) (by simp [results, Tryz.results69, go_sem, r0, r1]) rfl ?_
            have hbel := hbel'.out
            exact bad2'.out _ _ _ _ h41'.out h32'.out (by repeat (with_reducible first | exact hbel | exact Below.refl _ _ | refine Below.drew ?_ | refine Below.drewN ?_ _ | refine Below.alloc ?_ (by first | (simp; done) | (simp; omega) | omega | (have := Below.size hbel; simp; omega) | (have := Below.size hbel; omega)) _ | refine Below.setCell ?_ (by first | (simp; done) | (simp; omega) | omega) _))
    · have hno := Lib.hid (rdLoop_none (k := k) (acc := acc) hrd)
      clear hrd R hb1
      go_wp2_with fail
      refine bodyPost_ret (v := .tuple #[.agg #[.string ⟨#[]⟩, .slice A m cp], .int .i64 (-1)]) (by simp [results, Tryz.results69, go_sem, r0, r1, z0]) rfl ?_
      have hbel := hbel1.out
      exact bad'.out _ _ _ _ hno.out (by repeat (with_reducible first | exact hbel | exact Below.refl _ _ | refine Below.drew ?_ | refine Below.drewN ?_ _ | refine Below.alloc ?_ (by first | (simp; done) | (simp; omega) | omega | (have := Below.size hbel; simp; omega) | (have := Below.size hbel; omega)) _ | refine Below.setCell ?_ (by first | (simp; done) | (simp; omega) | omega) _))

theorem RPost.congr {r r' : Bs → Option (T × Bs)} {s : ByteArray} {i : Nat} {w w' : World} {e : Ending} (hr : r (s.data.toList.drop i) = r' (s.data.toList.drop i)) (h : RPost r s i w e w') : RPost r' s i w e w' := by
  unfold RPost at h ⊢
  rw [← hr]; exact h

theorem read_any (s : ByteArray) (hs : s.size ≤ 9000) (n : Nat) : ∀ d, n + d = 200 → ∀ (i : Nat) (w : World), i ≤ s.size →
    Calls Tryz.prog 69 #[.string s, .int .i64 i, .int .i64 d] w (RPost (rd n) s i w) := by
  induction n with
  | zero =>
    intro d hd i w hi
    by_cases hlt : i < s.size
    · by_cases h : s[i] = 40
      · refine (read_node (fun _ => none) (fun _ _ _ h => by cases h) s d (fun j w' _ => ?_) i w (by omega) hlt hs h).mono fun e w' hp => RPost.congr ?_ hp
        · exact read_deep s (j + 1) (d + 1) w' (by omega) (by omega)
        · rw [rd_zero (by rw [headIs_drop s i 40 hlt]; simpa using h), nodeOf, rdLoop_none rfl]; rfl
      · exact read_atom 0 s i d w (by omega) hlt hs h
    · exact read_end 0 s i d w (by omega) (by omega)
  | succ n ih =>
    intro d hd i w hi
    by_cases hlt : i < s.size
    · by_cases h : s[i] = 40
      · refine (read_node (rd n) (rd_shorter n) s d (fun j w' hj => ?_) i w (by omega) hlt hs h).mono fun e w' hp => RPost.congr ?_ hp
        · exact ih (d + 1) (by omega) (j + 1) w' hj
        · have ht : (s.data.toList.drop i).tail = s.data.toList.drop (i + 1) := by rw [List.tail_drop]
          rw [rd_succ (by rw [headIs_drop s i 40 hlt]; simpa using h), nodeOf, ht, List.length_drop, ← ba_size, show s.size - (i + 1) + 1 = s.size - i from by omega]
      · exact read_atom (n + 1) s i d w (by omega) hlt hs h
    · exact read_end (n + 1) s i d w (by omega) (by omega)

end Go.Proofs.YtaagbnbekfogiaaGreatDoor
