/- impl.nameOf. -/
import Derived.Test.YtchkmdagbjbcjaaGreatDoorErrJ
import Derived.Test.YtchkmdagbjbcjaaGreatDoorNames
import Derived.Laws.RangeString
namespace Go.Proofs.YtchkmdagbjbcjaaGreatDoor
set_option linter.unusedVariables false
open Go.RowKit
set_option maxRecDepth 100000

theorem idx3k (c : UInt8) : decide (0 ≤ Lib.indexByte [107, 108, 109] c) = covB c := by
  by_cases h1 : c = 107
  · subst h1; rfl
  by_cases h2 : c = 108
  · subst h2; rfl
  by_cases h3 : c = 109
  · subst h3; rfl
  simp [Lib.indexByte, covB, h1, h2, h3, Ne.symm h1, Ne.symm h2, Ne.symm h3]

theorem indexRune_any (L : ByteArray) (c : UInt8) (hc : c.toNat < 128) (w : World) :
    Calls Tryz.prog 74 #[.string L, .int .i32 c.toNat] w fun e w' => e = .returned (.int .i64 (Lib.indexByte L.data.toList c)) ∧ w = w' := by
  have h0 : (0 : Int) ≤ (c.toNat : Int) := by omega
  have h1 : (c.toNat : Int) < 128 := by omega
  have h2 : ((c.toNat : Int) % 256) = (c.toNat : Int) := by omega
  have hr : ((c.toNat : Int)).toNat.toUInt8 = c := by simp
  have hcall := sIndexByte_any L (c.toNat : Int)
  rw [hr] at hcall
  have hcall' := Lib.hid hcall
  clear hcall
  go_enter Tryz.func74, Tryz.ntmps74
  go_wp2_with (first | (go_at_call 78; refine (hcall'.out _).mono ?_; rintro e w' ⟨rfl, rfl⟩))
  go_ret
  exact ⟨rfl, rfl⟩

theorem containsRune_any (L : ByteArray) (c : UInt8) (hc : c.toNat < 128) (w : World) :
    Calls Tryz.prog 60 #[.string L, .int .i32 c.toNat] w fun e w' => e = .returned (.bool (decide (0 ≤ Lib.indexByte L.data.toList c))) ∧ w = w' := by
  have hcall := Lib.hid (indexRune_any L c hc)
  go_enter Tryz.func60, Tryz.ntmps60
  go_wp2_with (first | (go_at_call 74; refine (hcall.out _).mono ?_; rintro e w' ⟨rfl, rfl⟩))
  go_ret
  exact ⟨rfl, rfl⟩

/-- Whether the byte at k may stand there in a name. -/
def okAt (p : UInt8 → Bool) (l : Bs) (k : Nat) : Bool := match l[k]? with
  | some c => if k = 0 then p c else decide (k < 4) && digB c
  | none => true
theorem name_all {p : UInt8 → Bool} {l : Bs} (hne : l ≠ []) (h : ∀ k, k < l.length → okAt p l k = true) : nameB p l = true := by
  cases l with
  | nil => exact absurd rfl hne
  | cons c r =>
    have h0 := h 0 (by simp)
    simp [okAt] at h0
    have hr : r.length ≤ 3 := by
      rcases Nat.lt_or_ge 3 r.length with h3 | h3
      · have := h 4 (by simp; omega)
        simp only [okAt] at this
        rw [List.getElem?_eq_getElem (by simp; omega)] at this
        simp at this
      · exact h3
    have hd : r.all digB = true := by
      rw [List.all_eq_true]
      intro x hx
      obtain ⟨i, hi, rfl⟩ := List.getElem_of_mem hx
      have := h (i + 1) (by simp; omega)
      simp only [okAt] at this
      rw [List.getElem?_eq_getElem (by simp; omega)] at this
      simp at this
      exact this.2
    simp only [nameB, h0, decide_eq_true hr, hd]; rfl
theorem name_bad {p : UInt8 → Bool} {l : Bs} {k : Nat} (hk : k < l.length) (h : okAt p l k = false) : nameB p l = false := by
  cases l with
  | nil => rfl
  | cons c r =>
    cases k with
    | zero => simp [okAt] at h; simp [nameB, h]
    | succ k =>
      simp only [okAt] at h
      rw [List.getElem?_eq_getElem hk] at h
      simp only [List.getElem_cons_succ, Nat.add_eq_zero_iff, Nat.succ_ne_self, and_false, if_false, Bool.and_eq_false_iff, decide_eq_false_iff_not] at h
      have hkr : k < r.length := by simpa using hk
      rcases h with h | h
      · have : ¬ r.length ≤ 3 := by omega
        simp [nameB, this]
      · have : r.all digB = false := by
          rw [List.all_eq_false]
          exact ⟨r[k], List.getElem_mem hkr, by rw [h]; simp⟩
        simp [nameB, this]

/-- What nameOf hands back. -/
def NOPost (p : UInt8 → Bool) (s : ByteArray) (w : World) (e : Ending) (w' : World) : Prop :=
  Below w.heap.size w w' ∧ ∃ a x, e = .returned (.tuple #[a, x]) ∧ match nameB p s.data.toList with
    | true => x = .nilIface ∧ ∃ c d, s.data.toList = c :: d ∧ a = nameV c d
    | false => a = noName ∧ EV w' (fun _ => False) x
theorem NOPost.no {p : UInt8 → Bool} {s t : ByteArray} {w w' : World} (h : nameB p s.data.toList = false) (hb : Below w.heap.size w w') : NOPost p s w (.returned (.tuple #[.agg #[.int .u8 0, .string ⟨#[]⟩], .iface 71 (.agg #[.string t])])) w' :=
  ⟨hb, _, _, rfl, by rw [h]; exact ⟨rfl, .wrong _⟩⟩
theorem NOPost.yes {p : UInt8 → Bool} {s : ByteArray} {w w' : World} (h0 : 0 < s.size) (h : nameB p s.data.toList = true) (hb : Below w.heap.size w w') : NOPost p s w (.returned (.tuple #[.agg #[.int .u8 s[0].toNat, .string (s.extract 1 s.size)], .nilIface])) w' :=
  ⟨hb, _, _, rfl, by rw [h]; exact ⟨rfl, s[0], _, ba_cons h0, rfl⟩⟩

theorem okAt_get {p : UInt8 → Bool} {s : ByteArray} {k : Nat} (hk : k < s.size) : okAt p s.data.toList k = if k = 0 then p s[k] else decide (k < 4) && digB s[k] := by
  unfold okAt
  rw [List.getElem?_eq_getElem (by rw [← ba_size]; exact hk)]
  rfl

theorem iter_pos (w : World) (X : Obj) (s : ByteArray) (j : Nat) : ((w.alloc X).alloc (.stringIter s j)).iterPos (w.heap.size + 1) = j := by
  have h := heap_alloc_new (w.alloc X) (.stringIter s j)
  rw [show (w.alloc X).heap.size = w.heap.size + 1 from by simp] at h
  unfold World.iterPos
  rw [h]

set_option maxHeartbeats 4000000 in
theorem nameOf_any (L : ByteArray) (p : UInt8 → Bool) (hL : ∀ c, decide (0 ≤ Lib.indexByte L.data.toList c) = p c) (s : ByteArray) (hs : ∀ (i : Nat) (h : i < s.size), (s[i]'h).toNat < 128) (w : World) :
    Calls Tryz.prog 43 #[.string s, .string L] w (NOPost p s w) := by
  have hit : ∀ j, Below w.heap.size w ((w.alloc (.cells #[.int .u8 0, .string ⟨#[]⟩] 76)).alloc (.stringIter s j)) := fun j => ((Below.refl _ _).alloc (Nat.le_refl _) _).alloc (by simp) _
  have hno := Lib.hid (fun (h : nameB p s.data.toList = false) (t : ByteArray) w' hb => NOPost.no (w := w) (w' := w') (t := t) h hb)
  have hyes := Lib.hid (fun (h0 : 0 < s.size) (h : nameB p s.data.toList = true) w' hb => NOPost.yes (w := w) (w' := w') h0 h hb)
  have hbad := Lib.hid (fun (j : Nat) (hj : j < s.size) (h : okAt p s.data.toList j = false) => name_bad (p := p) (l := s.data.toList) (k := j) (by rw [← ba_size]; exact hj) h)
  have hcr := Lib.hid (fun (j : Nat) (hj : j < s.size) W => containsRune_any L s[j] (hs j hj) W)
  have hL' := Lib.hid hL
  have hs' := Lib.hid hs
  have hit' := Lib.hid hit
  clear hit hL hs
  go_enter Tryz.func43, Tryz.ntmps43
  go_wp2_with fail
  go_loopw [] (fun wr => ∃ j : Nat, j ≤ s.size ∧ (∀ k, k < j → okAt p s.data.toList k = true) ∧ wr = (w.alloc (.cells #[.int .u8 0, .string ⟨#[]⟩] 76)).alloc (.stringIter s j)) (fun w' => s.size - w'.iterPos (w.heap.size + 1))
  case atStart => exact ⟨0, Nat.zero_le _, (fun k hk => by omega), rfl⟩
  case round =>
    obtain ⟨j, hj, hall, rfl⟩ := hrel
    have hall' := Lib.hid hall
    have hbj := hit'.out j
    have hbj1 := hit'.out (j + 1)
    clear hall
    by_cases hp : j < s.size
    · have hnx : ∀ ty, (Instr.next (.pointer (some ⟨w.heap.size + 1, 0, none⟩)) true ty).run Tryz.prog ((w.alloc (.cells #[.int .u8 0, .string ⟨#[]⟩] 76)).alloc (.stringIter s j)) = .ok (.tuple #[.bool true, .int .i64 j, .int .i32 (s[j]'hp).toNat]) ((w.alloc (.cells #[.int .u8 0, .string ⟨#[]⟩] 76)).alloc (.stringIter s (j + 1))) := fun ty => by
        have h := run_next_ascii (P := Tryz.prog) (w.alloc (.cells #[.int .u8 0, .string ⟨#[]⟩] 76)) s j ty hp (hs'.out j hp)
        rw [show (w.alloc (.cells #[.int .u8 0, .string ⟨#[]⟩] 76)).heap.size = w.heap.size + 1 from by simp] at h; exact h
      have hget := okAt_get (p := p) hp
      have hcall := Lib.hid (hcr.out j hp)
      have hpc := hL'.out s[j]
      have hget' := Lib.hid hget
      clear hget
      by_cases h0 : j = 0
      · subst h0
        rw [hpc] at hcall
        cases hpp : p s[0]
        · rw [hpp] at hcall
          have hfin := Lib.hid (hno.out (hbad.out 0 hp (by rw [hget'.out, if_pos rfl, hpp])))
          clear hpc hpp
          go_wp2_with (first | (go_at_call 60; refine (hcall.out _).mono ?_; rintro e w' ⟨rfl, rfl⟩))
          refine bodyPost_ret (v := .tuple #[.agg #[.int .u8 0, .string ⟨#[]⟩], .iface 71 (.agg #[.string s])]) (by simp [results, Tryz.results43, go_sem]) rfl ?_
          exact hfin.out _ _ (by have hbel := hbj1; exact (by repeat (with_reducible first | exact hbel | exact Below.refl _ _ | refine Below.drew ?_ | refine Below.drewN ?_ _ | refine Below.alloc ?_ (by first | (simp; done) | (simp; omega) | omega | (have := Below.size hbel; simp; omega) | (have := Below.size hbel; omega)) _ | refine Below.setCell ?_ (by first | (simp; done) | (simp; omega) | omega) _)))
        · rw [hpp] at hcall
          have hok := Lib.hid (show okAt p s.data.toList 0 = true from by rw [hget'.out, if_pos rfl, hpp])
          clear hpc hpp
          go_wp2_with (first | (go_at_call 60; refine (hcall.out _).mono ?_; rintro e w' ⟨rfl, rfl⟩))
          go_roundw
          case rel => exact ⟨1, by omega, (fun k hk => by obtain rfl : k = 0 := (by omega); exact hok.out), rfl⟩
          case measure => simp only [iter_pos]; omega
      · have hj0 : ((j : Int) == 0) = false := by rw [beq_eq_false_iff_ne]; omega
        have hjp : (0 : Int) < (j : Int) := by omega
        have hg2 := Lib.hid (show okAt p s.data.toList j = (decide (j < 4) && (decide (48 ≤ (s[j]).toNat) && decide ((s[j]).toNat ≤ 57))) from by rw [hget'.out, if_neg h0]; rfl)
        clear hcall hpc hget'
        by_cases h4 : j < 4
        · have h4' : (j : Int) < 4 := by omega
          by_cases h48 : 48 ≤ (s[j]).toNat
          · have h48' : (48 : Int) ≤ ((s[j]).toNat : Int) := by omega
            by_cases h57 : (s[j]).toNat ≤ 57
            · have h57' : ((s[j]).toNat : Int) ≤ 57 := by omega
              have hok := Lib.hid (show okAt p s.data.toList j = true from by rw [hg2.out]; simp [h4, h48, h57])
              go_wp2_with fail
              go_roundw
              case rel => exact ⟨j + 1, by omega, fun k hk => by
                rcases Nat.lt_or_eq_of_le (Nat.le_of_lt_succ hk) with h | h
                · exact hall'.out k h
                · subst h; exact hok.out, rfl⟩
              case measure => simp only [iter_pos]; omega
            · have h57' : ¬ ((s[j]).toNat : Int) ≤ 57 := by omega
              have hfin := Lib.hid (hno.out (hbad.out j hp (by rw [hg2.out]; simp [h57])))
              go_wp2_with fail
              refine bodyPost_ret (v := .tuple #[.agg #[.int .u8 0, .string ⟨#[]⟩], .iface 71 (.agg #[.string s])]) (by simp [results, Tryz.results43, go_sem]) rfl ?_
              exact hfin.out _ _ (by have hbel := hbj1; exact (by repeat (with_reducible first | exact hbel | exact Below.refl _ _ | refine Below.drew ?_ | refine Below.drewN ?_ _ | refine Below.alloc ?_ (by first | (simp; done) | (simp; omega) | omega | (have := Below.size hbel; simp; omega) | (have := Below.size hbel; omega)) _ | refine Below.setCell ?_ (by first | (simp; done) | (simp; omega) | omega) _)))
          · have h48' : ¬ (48 : Int) ≤ ((s[j]).toNat : Int) := by omega
            have hfin := Lib.hid (hno.out (hbad.out j hp (by rw [hg2.out]; simp [h48])))
            go_wp2_with fail
            refine bodyPost_ret (v := .tuple #[.agg #[.int .u8 0, .string ⟨#[]⟩], .iface 71 (.agg #[.string s])]) (by simp [results, Tryz.results43, go_sem]) rfl ?_
            exact hfin.out _ _ (by have hbel := hbj1; exact (by repeat (with_reducible first | exact hbel | exact Below.refl _ _ | refine Below.drew ?_ | refine Below.drewN ?_ _ | refine Below.alloc ?_ (by first | (simp; done) | (simp; omega) | omega | (have := Below.size hbel; simp; omega) | (have := Below.size hbel; omega)) _ | refine Below.setCell ?_ (by first | (simp; done) | (simp; omega) | omega) _)))
        · have h4' : ¬ (j : Int) < 4 := by omega
          have hfin := Lib.hid (hno.out (hbad.out j hp (by rw [hg2.out]; simp [h4])))
          go_wp2_with fail
          refine bodyPost_ret (v := .tuple #[.agg #[.int .u8 0, .string ⟨#[]⟩], .iface 71 (.agg #[.string s])]) (by simp [results, Tryz.results43, go_sem]) rfl ?_
          exact hfin.out _ _ (by have hbel := hbj1; exact (by repeat (with_reducible first | exact hbel | exact Below.refl _ _ | refine Below.drew ?_ | refine Below.drewN ?_ _ | refine Below.alloc ?_ (by first | (simp; done) | (simp; omega) | omega | (have := Below.size hbel; simp; omega) | (have := Below.size hbel; omega)) _ | refine Below.setCell ?_ (by first | (simp; done) | (simp; omega) | omega) _)))
    · have hnx : ∀ ty, (Instr.next (.pointer (some ⟨w.heap.size + 1, 0, none⟩)) true ty).run Tryz.prog ((w.alloc (.cells #[.int .u8 0, .string ⟨#[]⟩] 76)).alloc (.stringIter s j)) = .ok (.tuple #[.bool false]) ((w.alloc (.cells #[.int .u8 0, .string ⟨#[]⟩] 76)).alloc (.stringIter s j)) := fun ty => by
        have h := run_next_end (P := Tryz.prog) (w.alloc (.cells #[.int .u8 0, .string ⟨#[]⟩] 76)) s j ty hp
        rw [show (w.alloc (.cells #[.int .u8 0, .string ⟨#[]⟩] 76)).heap.size = w.heap.size + 1 from by simp] at h; exact h
      have hjs := Lib.hid (show j = s.size from by omega)
      by_cases hz : s.size = 0
      · have he : s.toList.isEmpty = true := by rw [Lib.toList_data, List.isEmpty_iff]; exact List.eq_nil_of_length_eq_zero (by rw [← ba_size]; exact hz)
        clear hj hp
        have hfin := Lib.hid (hno.out (by
          have : s.data.toList = [] := List.eq_nil_of_length_eq_zero (by rw [← ba_size]; exact hz)
          rw [this]; rfl))
        go_wp2_with fail
        refine bodyPost_ret (v := .tuple #[.agg #[.int .u8 0, .string ⟨#[]⟩], .iface 71 (.agg #[.string ⟨#[]⟩])]) (by simp [results, Tryz.results43, go_sem]) rfl ?_
        exact hfin.out _ _ (by have hbel := hbj; exact (by repeat (with_reducible first | exact hbel | exact Below.refl _ _ | refine Below.drew ?_ | refine Below.drewN ?_ _ | refine Below.alloc ?_ (by first | (simp; done) | (simp; omega) | omega | (have := Below.size hbel; simp; omega) | (have := Below.size hbel; omega)) _ | refine Below.setCell ?_ (by first | (simp; done) | (simp; omega) | omega) _)))
      · have he : s.toList.isEmpty = false := by rw [Lib.toList_data, List.isEmpty_eq_false_iff]; intro e; rw [ba_size, e] at hz; exact hz rfl
        have h0s : 0 < s.size := Nat.pos_of_ne_zero hz
        have hfin := Lib.hid (hyes.out h0s (name_all (by intro e; rw [ba_size, e] at hz; exact hz rfl) (fun k hk => hall'.out k (by rw [← ba_size] at hk; have := hjs.out; omega))))
        clear hj hp
        have hz1 : (0 : Int) < (s.size : Int) := by omega
        go_wp2_with fail
        go_region
        go_wp2_with fail
        refine bodyPost_ret (v := .tuple #[.agg #[.int .u8 s[0].toNat, .string (s.extract 1 s.size)], .nilIface]) (by simp [results, Tryz.results43, go_sem]) rfl ?_
        exact hfin.out _ (by have hbel := hbj; exact (by repeat (with_reducible first | exact hbel | exact Below.refl _ _ | refine Below.drew ?_ | refine Below.drewN ?_ _ | refine Below.alloc ?_ (by first | (simp; done) | (simp; omega) | omega | (have := Below.size hbel; simp; omega) | (have := Below.size hbel; omega)) _ | refine Below.setCell ?_ (by first | (simp; done) | (simp; omega) | omega) _)))

end Go.Proofs.YtchkmdagbjbcjaaGreatDoor
