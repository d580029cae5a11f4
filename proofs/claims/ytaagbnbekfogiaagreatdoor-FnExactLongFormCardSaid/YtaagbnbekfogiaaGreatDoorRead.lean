/- The readers of texts: what impl.readPart and spec.l1Read hand back is what the plain function 'rd' says. -/
import Derived.Test.YtaagbnbekfogiaaGreatDoorTree
import Derived.Deep.QuietTactic
import Derived.BigQuiet
import Derived.BigRegion
import Derived.StillTailTactics
import Derived.Lib.Hide
namespace Go.Proofs.YtaagbnbekfogiaaGreatDoor
set_option linter.unusedVariables false
open Go.RowKit

def atomLen (s : ByteArray) : Nat := (s.data.toList.takeWhile atomB).length

set_option maxHeartbeats 400000 in
theorem atomLength_any (s : ByteArray) (w : World) (hs : s.size ≤ 9000) :
    Calls Tryz.prog 107 #[.string s] w fun e w' => e = .returned (.int .i64 (atomLen s)) ∧ w = w' := by
  go_enter Tryz.func107, Tryz.ntmps107
  go_wp2_with fail
  go_loop [3] (fun i => ∃ k : Nat, k ≤ atomLen s ∧ k ≤ s.size ∧ i = .int .i64 k) (fun i => s.size - (intOf i).toNat)
  case atStart => exact ⟨0, Nat.zero_le _, Nat.zero_le _, rfl⟩
  case round =>
    obtain ⟨k, hk, hk2, rfl⟩ := hrel
    by_cases hlt : k < s.size
    · cases hb : atomB s[k]
      · go_wp2_with (go_at_call 130; refine (atom_any _ _).mono ?_; rintro e w' ⟨rfl, rfl⟩)
        go_ret
        exact ⟨ret_int (by rw [atomLen, tw_stop hk (by rw [← ba_size]; exact hlt) (by rw [ba_get s k hlt]; exact hb)]), rfl⟩
      · go_wp2_with (go_at_call 130; refine (atom_any _ _).mono ?_; rintro e w' ⟨rfl, rfl⟩)
        go_round
        case rel => exact ⟨k + 1, tw_step hk (by rw [← ba_size]; exact hlt) (by rw [ba_get s k hlt]; exact hb), by omega, by go_num⟩
        case measure => simp [intOf]; omega
    · go_wp2_with fail
      go_ret
      exact ⟨ret_int (by rw [atomLen, tw_end hk (by rw [← ba_size]; omega)]), rfl⟩
def PartPost (n : Nat) (s : Bs) (w : World) (e : Ending) (w' : World) : Prop :=
  Below w.heap.size w w' ∧
    ((∃ t q a p l c, rd n s = some (t, q) ∧ e = .returned (.tuple #[.agg #[.string a, .slice p l c], .string ⟨q.toArray⟩, .bool true]) ∧ TC w' (New w.heap.size w') t a p l c) ∨
     (∃ a p l c r, rd n s = none ∧ e = .returned (.tuple #[.agg #[.string a, .slice p l c], .string r, .bool false])))

theorem part_atom (n : Nat) (s : ByteArray) (w : World) (hs : s.size ≤ 9000) (hh : headIs 40 s.data.toList = false) :
    Calls Tryz.prog 94 #[.string s, .int .i64 n] w (PartPost n s.data.toList w) := by
  have fin : ∀ w', Below w.heap.size w w' → PartPost n s.data.toList w (.returned (.tuple #[.agg #[.string (s.extract 0 (atomLen s)), .slice none 0 0], .string (s.extract (atomLen s) s.size), .bool (decide (0 < atomLen s))])) w' := by
    intro w' hb
    refine ⟨hb, ?_⟩
    rw [rd_atom hh]
    unfold atomLen
    by_cases hz : 0 < (s.data.toList.takeWhile atomB).length
    · refine .inl ⟨_, _, ⟨(s.data.toList.takeWhile atomB).toArray⟩, none, 0, 0, rdAtom_some hz, ?_, ?_⟩
      · rw [ba_to_end, ba_extract, tw_drop, List.drop_zero, Nat.sub_zero, tw_take, decide_eq_true hz]
      · exact ⟨fun e => by rw [e] at hz; simp at hz, rfl, rfl, rfl, rfl⟩
    · exact .inr ⟨_, _, _, _, _, rdAtom_none (by omega), by rw [decide_eq_false hz]⟩
  have fin' := Lib.hid fin
  clear fin
  go_enter Tryz.func94, Tryz.ntmps94
  go_wp2_with (first
    | (go_at_call 106; refine (pre_any _ _ _).mono ?_; rintro e w' ⟨rfl, rfl⟩)
    | (go_at_call 107; refine (atomLength_any _ _ hs).mono ?_; rintro e w' ⟨rfl, rfl⟩))
  have hle : atomLen s ≤ s.size := by rw [ba_size]; exact tw_le
  go_region
  go_wp2_with fail
  refine bodyPost_ret (v := .tuple #[.agg #[.string (s.extract 0 (atomLen s)), .slice none 0 0], .string (s.extract (atomLen s) s.size), .bool (decide (0 < atomLen s))]) (by simp [results, Tryz.results94, go_sem]) rfl ?_
  exact fin'.out _ ((Below.refl _ _).alloc (Nat.le_refl _) _).drew

theorem part_zero (s : ByteArray) (w : World) (hh : headIs 40 s.data.toList = true) :
    Calls Tryz.prog 94 #[.string s, .int .i64 0] w (PartPost 0 s.data.toList w) := by
  have fin : ∀ w', Below w.heap.size w w' → PartPost 0 s.data.toList w (.returned (.tuple #[.agg #[.string ⟨#[]⟩, .slice none 0 0], .string ⟨#[]⟩, .bool false])) w' :=
    fun w' hb => ⟨hb, .inr ⟨_, _, _, _, _, rd_zero hh, rfl⟩⟩
  have fin' := Lib.hid fin
  clear fin
  go_enter Tryz.func94, Tryz.ntmps94
  go_wp2_with (go_at_call 106; refine (pre_any _ _ _).mono ?_; rintro e w' ⟨rfl, rfl⟩)
  refine bodyPost_ret (v := .tuple #[.agg #[.string ⟨#[]⟩, .slice none 0 0], .string ⟨#[]⟩, .bool false]) (by simp [results, Tryz.results94, go_sem]) rfl ?_
  exact fin'.out _ ((Below.refl _ _).alloc (Nat.le_refl _) _)

theorem infoPart : (Tryz.prog.info? 111).map (fun i => (i.zero, i.size, i.bytes)) = some (some (.agg #[.string ⟨#[]⟩, .slice none 0 0]), 2, 40) := by kernel_rfl

def strLen : Value → Nat | .string b => b.size | _ => 0

/-- What a round of the reader's loop begins with. -/
structure PartRel (n : Nat) (s : Bs) (w : World) (b : ByteArray) (v : Value) (wr : World) (acc : List T) (xs : List Value) (k : Nat) : Prop where
  size : b.size ≤ s.length
  pos : 0 < b.size
  fuel : b.data.toList.tail.length < k
  same : rdLoop (rd n) k b.data.toList.tail acc = rdLoop (rd n) (s.tail.length + 1) s.tail []
  own : wr.ownsRow (w.heap.size + 1) 111 2 v acc.length xs
  kids : Kids wr (fun g => New (w.heap.size + 1) wr g ∧ v.ownBlock ≠ some g) acc xs
  below : Below w.heap.size w wr
  res : wr.heap[w.heap.size]? = some (.cells #[.string ⟨#[]⟩, .slice none 0 0] 111 (0, 0))
  few : acc.length + b.size ≤ s.length

set_option maxRecDepth 100000 in
theorem part_succ (n : Nat) (ih : ∀ (s : ByteArray) (w : World), s.size ≤ 9000 → Calls Tryz.prog 94 #[.string s, .int .i64 n] w (PartPost n s.data.toList w)) (hn : n ≤ 200)
    (s : ByteArray) (w : World) (hs : s.size ≤ 9000) (hh : headIs 40 s.data.toList = true) :
    Calls Tryz.prog 94 #[.string s, .int .i64 (n + 1 : Nat)] w (PartPost (n + 1) s.data.toList w) := by
  have IH := Lib.hid ih
  clear ih
  obtain ⟨i0, hi, hz0, hz1, hz2⟩ := info_parts infoPart
  have hc0 : ((n : Int) + 1 == 0) = false := beq_eq_false_iff_ne.2 (by omega)
  go_enter Tryz.func94, Tryz.ntmps94
  go_wp2_with (go_at_call 106; refine (pre_any _ _ _).mono ?_; rintro e w' ⟨rfl, rfl⟩)
  go_loopw [0, 8] (fun c v wr => ∃ b acc xs k, c = .string b ∧ PartRel n s.data.toList w b v wr acc xs k) (fun c _ _ => strLen c)
  case atStart =>
    refine ⟨s, [], [], _, rfl, ⟨?_, ?_, Nat.lt_succ_self _, rfl, World.ownsRow_nil _ _ _ _, rfl, (by repeat (with_reducible first | exact hbel | exact Below.refl _ _ | refine Below.drew ?_ | refine Below.drewN ?_ _ | refine Below.alloc ?_ (by first | (simp; done) | (simp; omega) | omega | (have := Below.size hbel; simp; omega) | (have := Below.size hbel; omega)) _ | refine Below.setCell ?_ (by first | (simp; done) | (simp; omega) | omega) _)), heap_alloc_new _ _, ?_⟩⟩
    · rw [ba_size]; exact Nat.le_refl _
    · rw [ba_size]; obtain ⟨q, e⟩ := headIs_cons hh; rw [e]; simp
    · rw [ba_size]; simp
  case round =>
    obtain ⟨b, acc, xs, k, rfl, R⟩ := hrel
    have hbpos := R.pos
    go_wp2_with fail
    refine (IH.out _ _ (by have := R.size; rw [ba_size] at hs; simp; omega)).mono ?_
    rintro e w1 ⟨hb1, hp⟩
    obtain ⟨z1, r0, r1, f0, f1⟩ := two_cells ((hb1.block _ (two_cells R.res).1).trans R.res)
    rcases hp with ⟨t, q, a, p, l, c, hrd, rfl, htc⟩ | ⟨a, p, l, c, r, hrd, rfl⟩
    · have own1 := own_below R.own hb1
      go_wp2_with (first
        | (at_builtin; go_loud (refine wpList_append_lies _ rfl (.tmp 41) (.tmp 43) 109 rfl (w.heap.size + 1) 111 i0 _ 2 40 Tryz.underlying109 hi hz0 hz1 hz2 rfl (by decide) _ _ _ rfl ((own1.alloc _).alloc _) ⟨w1.heap.size + 1, 0, none⟩ 1 1 [.string a, .slice p l c] rfl rfl ?c1 ?c2 (by decide) ?c3 ?c4 ?c5 _ rfl ?_))
        | fail)
      case c1 => exact World.news_of_block (cs := #[.string a, .slice p l c]) (second_alloc _ _ _)
      case c2 => intro u hu; simp at hu; rcases hu with rfl | rfl <;> rfl
      case c3 => have := R.few; rw [ba_size] at hs; unfold maxLen; omega
      case c4 => have := R.few; rw [ba_size] at hs; omega
      case c5 => simp; omega
      intro g cap w2 hown2 hgrow hat hlt
      have hW : Below w1.heap.size w1 ((w1.alloc (Obj.cells #[Value.string a, Value.slice p l c] 111)).alloc (Obj.cells #[Value.string a, Value.slice p l c] 111)) := ((Below.refl _ _).alloc (Nat.le_refl _) _).alloc (by simp) _
      have hkids := kids_step (m := acc.length + 1) (cap := cap) (two_cells R.res).1 R.own R.kids hb1 htc hW hgrow (by rcases hat with h | h; exact .inl h; exact .inr (by rw [h]; simp))
      have hbel : Below w.heap.size w w2 := ((R.below.trans (hb1.mono R.below.size)).trans (hW.mono (by have := hb1.size; have := R.below.size; omega))).grown hgrow (by simp; omega) (fun j hj => by have := R.own.lt j hj; omega)
      have hres : w2.heap[w.heap.size]? = some (.cells #[.string ⟨#[]⟩, .slice none 0 0] 111 (0, 0)) := by
        rw [hgrow.block _ (by simp; omega) (fun e => by have := R.own.lt _ e.symm; omega), hW.block _ z1, hb1.block _ (two_cells R.res).1]
        exact R.res
      have hfew := R.few
      have hsame := R.same
      have hfuel := R.fuel
      have hbs := R.size
      rw [show (b.extract 1 b.size).data.toList = b.data.toList.tail from by rw [Lib.extract_to_end, List.drop_one]] at hrd
      have hk1 : ∃ k', k = k' + 1 := ⟨k - 1, by omega⟩
      have fin : ∀ e w3, w3.heap.size = w2.heap.size → (∀ j, j ≠ w.heap.size → w3.heap[j]? = w2.heap[j]?) → Below w.heap.size w w3 →
          (∀ q', q = 41 :: q' → e = .returned (.tuple #[.agg #[.string ⟨#[]⟩, .slice (some ⟨g, 0, none⟩) (acc.length + 1) cap], .string ⟨q'.toArray⟩, .bool true]) → PartPost (n + 1) s.data.toList w e w3) := by
        intro e w3 hsz hsm hb3 q' hq he
        subst hq
        obtain ⟨k', rfl⟩ := hk1
        refine ⟨hb3, .inl ⟨.node (acc ++ [t]), q', _, _, _, _, ?_, he, ?_⟩⟩
        · rw [rd_succ hh, ← hsame, rdLoop_close hrd]; rfl
        · refine TC.keep (fun j hj => hsm j (by have := hj.1; omega)) (fun j hj => ⟨by have := hj.1; omega, by rw [hsz]; exact hj.2⟩) _ _ _ _ _ (tc_node (Nat.le_refl _) hown2 (by simp) hkids)
      have bad : ∀ w3, headIs 41 q = false → headIs 32 q = false → Below w.heap.size w w3 →
          PartPost (n + 1) s.data.toList w (.returned (.tuple #[.agg #[.string ⟨#[]⟩, .slice none 0 0], .string ⟨#[]⟩, .bool false])) w3 := by
        intro w3 h1 h2 hb3
        exact ⟨hb3, .inr ⟨_, _, _, _, _, by rw [rd_succ hh, ← hsame, rdLoop_bad hrd h1 h2]; rfl, rfl⟩⟩
      have next : ∀ q', q = 32 :: q' → ∃ k', PartRel n s.data.toList w ⟨q.toArray⟩ (.slice (some ⟨g, 0, none⟩) (acc.length + 1) cap) w2 (acc ++ [t]) (xs ++ [.string a, .slice p l c]) k' ∧ q.length < b.size := by
        intro q' hq
        obtain ⟨k', rfl⟩ := hk1
        have hlen := rd_length hrd
        rw [List.length_tail, ← ba_size] at hlen
        rw [List.length_tail, ← ba_size] at hfuel
        subst hq
        refine ⟨k', ⟨?_, ?_, ?_, ?_, ?_, hkids, hbel, hres, ?_⟩, by omega⟩
        · show (32 :: q').length ≤ _; omega
        · show 0 < (32 :: q').length; simp
        · simp at hlen ⊢; omega
        · rw [← hsame, rdLoop_on hrd]; rfl
        · simpa using hown2
        · have e := ba_size s; show _ + (32 :: q').length ≤ _; simp at hlen ⊢; omega
      have fin' := Lib.hid fin
      have bad' := Lib.hid bad
      have next' := Lib.hid next
      obtain ⟨z2, e0, e1, g0, g1⟩ := two_cells hres
      have hbel' := Lib.hid hbel
      clear fin bad next hk1 hkids hbel hres hown2 hgrow hat hW own1 R r0 r1 f0 f1 htc hb1 hsame hfuel hbs hfew hrd
      cases h41 : headIs 41 q with
      | true =>
        obtain ⟨q', rfl⟩ := headIs_cons h41
        go_wp2_with (go_at_call 106; refine (pre_str _ _ _ h41 _).mono ?_; rintro e w' ⟨rfl, rfl⟩)
        go_region
        go_wp2_with fail
        refine bodyPost_ret (v := .tuple #[.agg #[.string ⟨#[]⟩, .slice (some ⟨g, 0, none⟩) (acc.length + 1) cap], .string ⟨q'.toArray⟩, .bool true]) (by simp [results, Tryz.results94, go_sem, e0, e1, ba_tail]) rfl ?_
        refine fin'.out _ _ ?_ ?_ ?_ _ rfl rfl
        · simp
        · intro j hj
          show ((w2.setCell _ _).setCell _ _).heap[j]? = _
          rw [Below.heap_setCell _ _ _ _ hj, Below.heap_setCell _ _ _ _ hj]
        · have hbel := hbel'.out
          exact (by repeat (with_reducible first | exact hbel | exact Below.refl _ _ | refine Below.drew ?_ | refine Below.drewN ?_ _ | refine Below.alloc ?_ (by first | (simp; done) | (simp; omega) | omega | (have := Below.size hbel; simp; omega) | (have := Below.size hbel; omega)) _ | refine Below.setCell ?_ (by first | (simp; done) | (simp; omega) | omega) _))
      | false =>
        cases h32 : headIs 32 q with
        | true =>
          obtain ⟨q', rfl⟩ := headIs_cons h32
          go_wp2_with (go_at_call 106; first | (refine (pre_str _ 41 _ h41 _).mono ?_; rintro e w' ⟨rfl, rfl⟩) | (refine (pre_str _ 32 _ h32 _).mono ?_; rintro e w' ⟨rfl, rfl⟩))
          obtain ⟨k', R', hless⟩ := next'.out q' rfl
          go_roundw
          case rel => exact ⟨_, _, _, k', rfl, R'⟩
          case measure => exact hless
        | false =>
          go_wp2_with (go_at_call 106; first | (refine (pre_str _ 41 _ h41 _).mono ?_; rintro e w' ⟨rfl, rfl⟩) | (refine (pre_str _ 32 _ h32 _).mono ?_; rintro e w' ⟨rfl, rfl⟩))
          refine bodyPost_ret (v := .tuple #[.agg #[.string ⟨#[]⟩, .slice none 0 0], .string ⟨#[]⟩, .bool false]) (by simp [results, Tryz.results94, go_sem, e0, e1]) rfl ?_
          have hbel := hbel'.out
          exact bad'.out _ h41 h32 (by repeat (with_reducible first | exact hbel | exact Below.refl _ _ | refine Below.drew ?_ | refine Below.drewN ?_ _ | refine Below.alloc ?_ (by first | (simp; done) | (simp; omega) | omega | (have := Below.size hbel; simp; omega) | (have := Below.size hbel; omega)) _ | refine Below.setCell ?_ (by first | (simp; done) | (simp; omega) | omega) _))
    · have hno := rdLoop_none (acc := acc) (k := k) hrd
      have bad : ∀ w3, Below w.heap.size w w3 → PartPost (n + 1) s.data.toList w (.returned (.tuple #[.agg #[.string ⟨#[]⟩, .slice none 0 0], .string ⟨#[]⟩, .bool false])) w3 := by
        intro w3 hb3
        refine ⟨hb3, .inr ⟨_, _, _, _, _, ?_, rfl⟩⟩
        rw [show (b.extract 1 b.size).data.toList = b.data.toList.tail from by rw [Lib.extract_to_end, List.drop_one]] at hno
        rw [rd_succ hh, ← R.same, hno]; rfl
      have bad' := Lib.hid bad
      have hbel' := Lib.hid (R.below.trans (hb1.mono R.below.size))
      clear bad R hno hrd hb1
      go_wp2_with fail
      refine bodyPost_ret (v := .tuple #[.agg #[.string ⟨#[]⟩, .slice none 0 0], .string ⟨#[]⟩, .bool false]) (by simp [results, Tryz.results94, go_sem, r0, r1, z1]) rfl ?_
      have hbel := hbel'.out
      exact bad'.out _ (by repeat (with_reducible first | exact hbel | exact Below.refl _ _ | refine Below.drew ?_ | refine Below.drewN ?_ _ | refine Below.alloc ?_ (by first | (simp; done) | (simp; omega) | omega | (have := Below.size hbel; simp; omega) | (have := Below.size hbel; omega)) _ | refine Below.setCell ?_ (by first | (simp; done) | (simp; omega) | omega) _))

theorem part_any (n : Nat) (hn : n ≤ 200) : ∀ (s : ByteArray) (w : World), s.size ≤ 9000 → Calls Tryz.prog 94 #[.string s, .int .i64 n] w (PartPost n s.data.toList w) := by
  induction n with
  | zero =>
    intro s w hs
    cases hh : headIs 40 s.data.toList
    · exact part_atom 0 s w hs hh
    · exact part_zero s w hh
  | succ n ih =>
    intro s w hs
    cases hh : headIs 40 s.data.toList
    · exact part_atom (n + 1) s w hs hh
    · exact part_succ n (ih (by omega)) (by omega) s w hs hh

end Go.Proofs.YtaagbnbekfogiaaGreatDoor
