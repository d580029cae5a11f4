/- Lists of formulas that are read: impl.readFormulas. -/
import Derived.Test.YtbglimlhffbddaaFormula
import Derived.Test.YtbglimlhffbddaaReadF
import Derived.Test.YtbglimlhffbddaaStrs
namespace Go.Proofs.Ytbglimlhffbddaa
set_option linter.unusedVariables false
open Go.RowKit

/-- The formulas that a list of texts is. -/
def readFs : List ByteArray → Option (List F)
  | [] => some []
  | s :: ss => match readF s.data.toList, readFs ss with
    | some f, some fs => some (f :: fs)
    | _, _ => none

theorem readFs_snoc {s : ByteArray} {ss : List ByteArray} {fs : List F} (h : readFs ss = some fs) : readFs (ss ++ [s]) = (readF s.data.toList).map fun f => fs ++ [f] := by
  induction ss generalizing fs with
  | nil => cases h; simp only [List.nil_append, readFs]; cases readF s.data.toList <;> rfl
  | cons x xs ih =>
    simp only [readFs] at h
    split at h
    · rename_i f gs hf hg
      injection h with h; subst h
      simp only [List.cons_append, readFs, hf, ih hg]
      cases readF s.data.toList <;> rfl
    · cases h

theorem readFs_none {ss ts : List ByteArray} (h : readFs ss = none) : readFs (ss ++ ts) = none := by
  induction ss with
  | nil => cases h
  | cons x xs ih =>
    simp only [readFs] at h
    simp only [List.cons_append, readFs]
    cases hx : readF x.data.toList with
    | none => rfl
    | some f =>
      cases hg : readFs xs with
      | none => rw [ih hg]
      | some gs => rw [hx, hg] at h; cases h

theorem readFs_length {ss : List ByteArray} {fs : List F} (h : readFs ss = some fs) : fs.length = ss.length := by
  induction ss generalizing fs with
  | nil => cases h; rfl
  | cons x xs ih =>
    simp only [readFs] at h
    split at h
    · rename_i f gs hf hg
      injection h with h; subst h
      simp [ih hg]
    · cases h

theorem readFs_ok {ss : List ByteArray} {fs : List F} (h : readFs ss = some fs) : ∀ f ∈ fs, f.ok = true ∧ f.size ≤ 60 := by
  induction ss generalizing fs with
  | nil => cases h; simp
  | cons x xs ih =>
    simp only [readFs] at h
    split at h
    · rename_i f gs hf hg
      injection h with h; subst h
      intro f' hf'
      rcases List.mem_cons.1 hf' with rfl | hf'
      · exact ⟨readF_ok hf, readF_size hf⟩
      · exact ih hg f' hf'
    · cases h

theorem readFs_step {ss : List ByteArray} {j : Nat} (hj : j < ss.length) {fs : List F} (h : readFs (ss.take j) = some fs) : readFs (ss.take (j + 1)) = (readF ss[j].data.toList).map fun f => fs ++ [f] := by
  rw [List.take_succ_eq_append_getElem hj]; exact readFs_snoc h
theorem readFs_stop {ss : List ByteArray} {j : Nat} (h : readFs (ss.take j) = none) : readFs ss = none := by
  rw [← List.take_append_drop j ss]; exact readFs_none h

/-- The slice (A, n) reads as the formulas fs. -/
def RowF (lo : Nat) (w : World) (A : Option Addr) (n : Nat) (fs : List F) : Prop :=
  n = fs.length ∧ (0 < n → ∃ b o, A = some ⟨b, o, none⟩ ∧ (lo ≤ b ∧ b < w.heap.size) ∧ ∀ (i : Nat) (f : F), fs[i]? = some f → w.cell? ⟨b, o + i, none⟩ = some (fv f))

theorem RowF.below {lo : Nat} {w w' : World} {A : Option Addr} {n : Nat} {fs : List F} (h : RowF lo w A n fs) (hb : Below w.heap.size w w') : RowF lo w' A n fs := by
  refine ⟨h.1, fun hn => ?_⟩
  obtain ⟨b, o, e, hlt, hc⟩ := h.2 hn
  exact ⟨b, o, e, ⟨hlt.1, Nat.lt_of_lt_of_le hlt.2 hb.size⟩, fun i s hi => (hb.cell (p := ⟨b, o + i, none⟩) hlt.2).trans (hc i s hi)⟩

theorem RowF.same {lo r : Nat} {w w' : World} {A : Option Addr} {n : Nat} {fs : List F} (h : RowF lo w A n fs) (hr : r < lo) (hs : w'.heap.size = w.heap.size) (he : ∀ j, j ≠ r → w'.heap[j]? = w.heap[j]?) : RowF lo w' A n fs := by
  refine ⟨h.1, fun hn => ?_⟩
  obtain ⟨b, o, e, hlt, hc⟩ := h.2 hn
  exact ⟨b, o, e, by rw [hs]; exact hlt, fun i s hi => (World.cell?_of_block (a := ⟨b, o + i, none⟩) (he b (by omega))).trans (hc i s hi)⟩
theorem RowF.mono {lo lo' : Nat} {w : World} {A : Option Addr} {n : Nat} {fs : List F} (h : RowF lo w A n fs) (hl : lo' ≤ lo) : RowF lo' w A n fs := by
  refine ⟨h.1, fun hn => ?_⟩
  obtain ⟨b, o, e, hlt, hc⟩ := h.2 hn
  exact ⟨b, o, e, ⟨by omega, hlt.2⟩, hc⟩

theorem RowF.of_own {w : World} {base : Nat} {E : TypeId} {A : Option Addr} {n c : Nat} {fs : List F} (h : w.ownsRow base E 1 (.slice A n c) n (fs.map fv)) : RowF base w A n fs := by
  refine ⟨by have := h.1; simpa using this.symm, fun hn => ?_⟩
  obtain ⟨g, cap, hv, _, hlt⟩ := h.form hn
  have hA : A = some ⟨g, 0, none⟩ := by injection hv
  subst hA
  refine ⟨g, 0, rfl, ⟨(h.lt g rfl).1, hlt⟩, fun i s hi => ?_⟩
  have h1 := h.cells (g := g) rfl i (fv s) (by rw [List.getElem?_map, hi]; rfl)
  have e : ({ block := g, off := 0, spot := none } : Addr).add i = ⟨g, 0 + i, none⟩ := by unfold Addr.add; split <;> simp_all
  rw [e] at h1
  exact h1

theorem infoForm : (Try.prog.info? 36).map (fun i => (i.zero, i.size, i.bytes)) = some (some .nilIface, 1, 16) := by kernel_rfl

/-- What readFormulas hands back. -/
def FsPost (o : Option (List F)) (w : World) (e : Ending) (w' : World) : Prop :=
  Below w.heap.size w w' ∧ ∃ A c n, e = .returned (.tuple #[.slice A n c, .bool o.isSome]) ∧ ∀ fs, o = some fs → RowF w.heap.size w' A n fs

theorem readFormulas_any (A : Option Addr) (n c : Nat) (ss : List ByteArray) (w : World) (hr : RowS w A n ss) (hn : n ≤ 10000000) :
    Calls Try.prog 23 #[.slice A n c] w (FsPost (readFs ss) w) := by
  obtain ⟨i0, hi0, hz0, hz1, hz2⟩ := info_parts infoForm
  have hr' := Lib.hid hr
  have hl := Lib.hid hr.1
  clear hr
  go_enter Try.func23, Try.ntmps23
  go_wp2_with fail
  go_loopw [4, 11] (fun fv0 i wr => ∃ (j : Nat) (fs : List F) (A1 : Option Addr) (c1 : Nat), j ≤ n ∧ i = .int .i64 j ∧ fv0 = .slice A1 fs.length c1 ∧ readFs (ss.take j) = some fs ∧ fs.length = j ∧
      wr.ownsRow w.heap.size 36 1 (.slice A1 fs.length c1) fs.length (fs.map fv) ∧ Below w.heap.size w wr)
    (fun _ i _ => n - (intOf i).toNat)
  case atStart => exact ⟨0, [], none, 0, Nat.zero_le _, rfl, rfl, rfl, rfl, World.ownsRow_nil _ _ _ _, Below.refl _ _⟩
  case round =>
    obtain ⟨j, fs, A1, c1, hj, rfl, rfl, hfs, rfl, own1, hb1⟩ := hrel
    by_cases hlt : fs.length < n
    · obtain ⟨b, o, rfl, hblt, hc⟩ := hr'.out.2 (by omega)
      have l1 : fs.length < ss.length := by have := hl.out; omega
      have x1 := (hb1.cell (p := ⟨b, o + fs.length, none⟩) hblt).trans (hc fs.length ss[fs.length] (List.getElem?_eq_getElem l1))
      have i1 : (fs.length : Int) < (n : Int) := by omega
      have i0' : (0 : Int) ≤ (fs.length : Int) := by omega
      have hstep := readFs_step l1 hfs
      generalize ss[fs.length] = t at x1 hstep
      have own1' := Lib.hid own1
      have hb1' := Lib.hid hb1
      clear hc own1 hb1 hfs
      go_wp2_with fail
      refine (readFormula_any t _).mono ?_
      rintro e w2 ⟨hb2, rfl⟩
      have hb2' := Lib.hid (below_step hb1'.out (Nat.le_refl _) hb2)
      have own2 := Lib.hid (own_below own1'.out hb2)
      clear hb2 own1'
      cases hrd : readF t.data.toList with
      | none =>
        have hno : Hid (FsPost (readFs ss) w (.returned (.tuple #[.slice none 0 0, .bool false])) w2) := by
          rw [hrd] at hstep
          rw [readFs_stop hstep]
          exact ⟨hb2'.out, _, _, _, rfl, fun fs h => by cases h⟩
        rw [show fvO none = .nilIface from rfl, show (none : Option F).isSome = false from rfl]
        clear hrd hstep
        go_wp2_with fail
        refine bodyPost_ret (v := .tuple #[.slice none 0 0, .bool false]) (by simp [results, Try.results23, go_sem]) rfl ?_
        exact hno.out
      | some f =>
        rw [hrd] at hstep
        have hstep' := Lib.hid hstep
        rw [show fvO (some f) = .iface (ft f) (fi f) from rfl, show (some f).isSome = true from rfl]
        clear hrd hstep
        go_wp2_with (at_builtin; go_loud (refine wpList_append_lies _ rfl (.tmp 22) (.tmp 24) 45 rfl w.heap.size 36 i0 _ 1 16 Try.underlying45 hi0 hz0 hz1 hz2 rfl (by decide) _ _ _ rfl (own2.out.alloc _) ⟨w2.heap.size, 0, none⟩ 1 1 [fv f] rfl rfl ?c1 ?c2 (by decide) ?c3 ?c4 ?c5 _ rfl ?_))
        case c1 => exact World.news_of_block (cs := #[fv f]) (heap_alloc_new _ _)
        case c2 => intro u hu; simp at hu; rw [hu]; rfl
        case c3 => unfold maxLen; omega
        case c4 => omega
        case c5 => have := hb2'.out.size; simp; omega
        intro g cap w3 own3 gr3 hat hlt3
        have own3' := Lib.hid own3
        have hb3' : Hid (Below w.heap.size w w3) := Lib.hid ((bb_alloc hb2'.out _).grown gr3 (by have := hb2'.out.size; simp; omega) (fun k hk => (own2.out.lt k hk).1))
        clear own3 gr3 hat
        go_wp2_with fail
        go_roundw
        case rel =>
          refine ⟨fs.length + 1, fs ++ [f], some ⟨g, 0, none⟩, cap, by omega, by go_num, by simp, hstep'.out, by simp, ?_, hb3'.out⟩
          have o := own3'.out
          simpa using o
        case measure => simp [intOf]; omega
    · have hfin : Hid (FsPost (readFs ss) w (.returned (.tuple #[.slice A1 fs.length c1, .bool true])) wr) := by
        rw [List.take_of_length_le (by have := hl.out; omega)] at hfs
        rw [hfs]
        exact ⟨hb1, _, _, _, rfl, fun gs h => by cases h; exact RowF.of_own own1⟩
      clear own1 hb1 hfs
      go_wp2_with fail
      refine bodyPost_ret (v := .tuple #[.slice A1 fs.length c1, .bool true]) (by simp [results, Try.results23, go_sem]) rfl ?_
      exact hfin.out

end Go.Proofs.Ytbglimlhffbddaa
