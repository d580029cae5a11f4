/- Sequents: impl.readFormulas, readSequent, holds. -/
import Derived.Test.YtmnppkmgohpmaaaHoldsFn
namespace Go.Proofs.Ytmnppkmgohpmaaa
open Go.RowKit

/-- The formulas that a list of texts is. -/
def readFs : List ByteArray → Option (List F)
  | [] => some []
  | s :: ss => match readF s.data.toList, readFs ss with
    | some f, some fs => some (f :: fs)
    | _, _ => none

theorem readFs_snoc {s : ByteArray} {ss : List ByteArray} {fs : List F} (h : readFs ss = some fs) : readFs (ss ++ [s]) = (readF s.data.toList).map fun f => fs ++ [f] := by
  induction ss generalizing fs with
  | nil => cases h; simp only [List.nil_append, readFs]; cases readF s.data.toList <;> rfl
  | cons x xs ih =>
    simp only [readFs] at h
    split at h
    · rename_i f gs hf hg
      injection h with h; subst h
      simp only [List.cons_append, readFs, hf, ih hg]
      cases readF s.data.toList <;> rfl
    · cases h

theorem readFs_none {ss ts : List ByteArray} (h : readFs ss = none) : readFs (ss ++ ts) = none := by
  induction ss with
  | nil => cases h
  | cons x xs ih =>
    simp only [readFs] at h
    simp only [List.cons_append, readFs]
    cases hx : readF x.data.toList with
    | none => rfl
    | some f =>
      cases hg : readFs xs with
      | none => rw [ih hg]
      | some gs => rw [hx, hg] at h; cases h

theorem readFs_length {ss : List ByteArray} {fs : List F} (h : readFs ss = some fs) : fs.length = ss.length := by
  induction ss generalizing fs with
  | nil => cases h; rfl
  | cons x xs ih =>
    simp only [readFs] at h
    split at h
    · rename_i f gs hf hg
      injection h with h; subst h
      simp [ih hg]
    · cases h

theorem readFs_ok {ss : List ByteArray} {fs : List F} (h : readFs ss = some fs) : ∀ f ∈ fs, f.ok = true ∧ f.size ≤ 60 := by
  induction ss generalizing fs with
  | nil => cases h; simp
  | cons x xs ih =>
    simp only [readFs] at h
    split at h
    · rename_i f gs hf hg
      injection h with h; subst h
      intro f' hf'
      rcases List.mem_cons.1 hf' with rfl | hf'
      · exact ⟨readF_ok hf, readF_size hf⟩
      · exact ih hg f' hf'
    · cases h

theorem readFs_step {ss : List ByteArray} {j : Nat} (hj : j < ss.length) {fs : List F} (h : readFs (ss.take j) = some fs) : readFs (ss.take (j + 1)) = (readF ss[j].data.toList).map fun f => fs ++ [f] := by
  rw [List.take_succ_eq_append_getElem hj]; exact readFs_snoc h
theorem readFs_stop {ss : List ByteArray} {j : Nat} (h : readFs (ss.take j) = none) : readFs ss = none := by
  rw [← List.take_append_drop j ss]; exact readFs_none h

/-- The slice (A, n) reads as the formulas fs. -/
def RowF (lo : Nat) (w : World) (A : Option Addr) (n : Nat) (fs : List F) : Prop :=
  n = fs.length ∧ (0 < n → ∃ b o, A = some ⟨b, o, none⟩ ∧ (lo ≤ b ∧ b < w.heap.size) ∧ ∀ (i : Nat) (f : F), fs[i]? = some f → w.cell? ⟨b, o + i, none⟩ = some (fv f))

theorem RowF.below {lo : Nat} {w w' : World} {A : Option Addr} {n : Nat} {fs : List F} (h : RowF lo w A n fs) (hb : Below w.heap.size w w') : RowF lo w' A n fs := by
  refine ⟨h.1, fun hn => ?_⟩
  obtain ⟨b, o, e, hlt, hc⟩ := h.2 hn
  exact ⟨b, o, e, ⟨hlt.1, Nat.lt_of_lt_of_le hlt.2 hb.size⟩, fun i s hi => (hb.cell (p := ⟨b, o + i, none⟩) hlt.2).trans (hc i s hi)⟩

theorem RowF.same {lo r : Nat} {w w' : World} {A : Option Addr} {n : Nat} {fs : List F} (h : RowF lo w A n fs) (hr : r < lo) (hs : w'.heap.size = w.heap.size) (he : ∀ j, j ≠ r → w'.heap[j]? = w.heap[j]?) : RowF lo w' A n fs := by
  refine ⟨h.1, fun hn => ?_⟩
  obtain ⟨b, o, e, hlt, hc⟩ := h.2 hn
  exact ⟨b, o, e, by rw [hs]; exact hlt, fun i s hi => (World.cell?_of_block (a := ⟨b, o + i, none⟩) (he b (by omega))).trans (hc i s hi)⟩
theorem RowF.mono {lo lo' : Nat} {w : World} {A : Option Addr} {n : Nat} {fs : List F} (h : RowF lo w A n fs) (hl : lo' ≤ lo) : RowF lo' w A n fs := by
  refine ⟨h.1, fun hn => ?_⟩
  obtain ⟨b, o, e, hlt, hc⟩ := h.2 hn
  exact ⟨b, o, e, ⟨by omega, hlt.2⟩, hc⟩

theorem RowF.of_own {w : World} {base : Nat} {E : TypeId} {A : Option Addr} {n c : Nat} {fs : List F} (h : w.ownsRow base E 1 (.slice A n c) n (fs.map fv)) : RowF base w A n fs := by
  refine ⟨by have := h.1; simpa using this.symm, fun hn => ?_⟩
  obtain ⟨g, cap, hv, _, hlt⟩ := h.form hn
  have hA : A = some ⟨g, 0, none⟩ := by injection hv
  subst hA
  refine ⟨g, 0, rfl, ⟨(h.lt g rfl).1, hlt⟩, fun i s hi => ?_⟩
  have h1 := h.cells (g := g) rfl i (fv s) (by rw [List.getElem?_map, hi]; rfl)
  have e : ({ block := g, off := 0, spot := none } : Addr).add i = ⟨g, 0 + i, none⟩ := by unfold Addr.add; split <;> simp_all
  rw [e] at h1
  exact h1

theorem infoForm : (Try.prog.info? 41).map (fun i => (i.zero, i.size, i.bytes)) = some (some .nilIface, 1, 16) := by kernel_rfl

/-- What readFormulas hands back. -/
def FsPost (o : Option (List F)) (w : World) (e : Ending) (w' : World) : Prop :=
  Below w.heap.size w w' ∧ ∃ A c n, e = .returned (.tuple #[.slice A n c, .bool o.isSome]) ∧ ∀ fs, o = some fs → RowF w.heap.size w' A n fs

theorem readFormulas_any (A : Option Addr) (n c : Nat) (ss : List ByteArray) (w : World) (hr : RowS w A n ss) (hn : n ≤ 1000) :
    Calls Try.prog 62 #[.slice A n c] w (FsPost (readFs ss) w) := by
  obtain ⟨i0, hi0, hz0, hz1, hz2⟩ := info_parts infoForm
  have hr' := Lib.hid hr
  have hl := Lib.hid hr.1
  clear hr
  go_enter Try.func62, Try.ntmps62
  go_wp2_with fail
  go_loopw [4, 11] (fun fv0 i wr => ∃ (j : Nat) (fs : List F) (A1 : Option Addr) (c1 : Nat), j ≤ n ∧ i = .int .i64 j ∧ fv0 = .slice A1 fs.length c1 ∧ readFs (ss.take j) = some fs ∧ fs.length = j ∧
      wr.ownsRow w.heap.size 41 1 (.slice A1 fs.length c1) fs.length (fs.map fv) ∧ Below w.heap.size w wr)
    (fun _ i _ => n - (intOf i).toNat)
  case atStart => exact ⟨0, [], none, 0, Nat.zero_le _, rfl, rfl, rfl, rfl, World.ownsRow_nil _ _ _ _, Below.refl _ _⟩
  case round =>
    obtain ⟨j, fs, A1, c1, hj, rfl, rfl, hfs, rfl, own1, hb1⟩ := hrel
    by_cases hlt : fs.length < n
    · obtain ⟨b, o, rfl, hblt, hc⟩ := hr'.out.2 (by omega)
      have l1 : fs.length < ss.length := by have := hl.out; omega
      have x1 := (hb1.cell (p := ⟨b, o + fs.length, none⟩) hblt).trans (hc fs.length ss[fs.length] (List.getElem?_eq_getElem l1))
      have i1 : (fs.length : Int) < (n : Int) := by omega
      have i0' : (0 : Int) ≤ (fs.length : Int) := by omega
      have hstep := readFs_step l1 hfs
      generalize ss[fs.length] = t at x1 hstep
      have own1' := Lib.hid own1
      have hb1' := Lib.hid hb1
      clear hc own1 hb1 hfs
      go_wp2_with fail
      refine (readFormula_any t _).mono ?_
      rintro e w2 ⟨hb2, rfl⟩
      have hb2' := Lib.hid (below_step hb1'.out (Nat.le_refl _) hb2)
      have own2 := Lib.hid (own_below own1'.out hb2)
      clear hb2 own1'
      cases hrd : readF t.data.toList with
      | none =>
        have hno : Hid (FsPost (readFs ss) w (.returned (.tuple #[.slice none 0 0, .bool false])) w2) := by
          rw [hrd] at hstep
          rw [readFs_stop hstep]
          exact ⟨hb2'.out, _, _, _, rfl, fun fs h => by cases h⟩
        rw [show fvO none = .nilIface from rfl, show (none : Option F).isSome = false from rfl]
        clear hrd hstep
        go_wp2_with fail
        refine bodyPost_ret (v := .tuple #[.slice none 0 0, .bool false]) (by simp [results, Try.results62, go_sem]) rfl ?_
        exact hno.out
      | some f =>
        rw [hrd] at hstep
        have hstep' := Lib.hid hstep
        rw [show fvO (some f) = .iface (ft f) (fi f) from rfl, show (some f).isSome = true from rfl]
        clear hrd hstep
        go_wp2_with (at_builtin; go_loud (refine wpList_append_lies _ rfl (.tmp 22) (.tmp 24) 62 rfl w.heap.size 41 i0 _ 1 16 Try.underlying62 hi0 hz0 hz1 hz2 rfl (by decide) _ _ _ rfl (own2.out.alloc _) ⟨w2.heap.size, 0, none⟩ 1 1 [fv f] rfl rfl ?c1 ?c2 (by decide) ?c3 ?c4 ?c5 _ rfl ?_))
        case c1 => exact World.news_of_block (cs := #[fv f]) (heap_alloc_new _ _)
        case c2 => intro u hu; simp at hu; rw [hu]; rfl
        case c3 => unfold maxLen; omega
        case c4 => omega
        case c5 => have := hb2'.out.size; simp; omega
        intro g cap w3 own3 gr3 hat hlt3
        have own3' := Lib.hid own3
        have hb3' : Hid (Below w.heap.size w w3) := Lib.hid ((bb_alloc hb2'.out _).grown gr3 (by have := hb2'.out.size; simp; omega) (fun k hk => (own2.out.lt k hk).1))
        clear own3 gr3 hat
        go_wp2_with fail
        go_roundw
        case rel =>
          refine ⟨fs.length + 1, fs ++ [f], some ⟨g, 0, none⟩, cap, by omega, by go_num, by simp, hstep'.out, by simp, ?_, hb3'.out⟩
          have o := own3'.out
          simpa using o
        case measure => simp [intOf]; omega
    · have hfin : Hid (FsPost (readFs ss) w (.returned (.tuple #[.slice A1 fs.length c1, .bool true])) wr) := by
        rw [List.take_of_length_le (by have := hl.out; omega)] at hfs
        rw [hfs]
        exact ⟨hb1, _, _, _, rfl, fun gs h => by cases h; exact RowF.of_own own1⟩
      clear own1 hb1 hfs
      go_wp2_with fail
      refine bodyPost_ret (v := .tuple #[.slice A1 fs.length c1, .bool true]) (by simp [results, Try.results62, go_sem]) rfl ?_
      exact hfin.out

def bothO : Option (List F) → Option (List F) → Option (List F × List F)
  | some fs, some gs => some (fs, gs)
  | _, _ => none
theorem bothO_left {o p : Option (List F)} (h : o.isSome = false) : bothO o p = none := by cases o <;> cases p <;> first | rfl | cases h
theorem bothO_right {o p : Option (List F)} (h : p.isSome = false) : bothO o p = none := by cases o <;> cases p <;> first | rfl | cases h
theorem bothO_some {o p : Option (List F)} (h : o.isSome = true) (h' : p.isSome = true) : ∃ fs gs, o = some fs ∧ p = some gs ∧ bothO o p = some (fs, gs) := by
  cases o with
  | none => cases h
  | some fs => cases p with
    | none => cases h'
    | some gs => exact ⟨fs, gs, rfl, rfl, rfl⟩

/-- Both lists, where they are not too long. -/
def readSq (ss ts : List ByteArray) : Option (List F × List F) := if ss.length + ts.length ≤ 12 then bothO (readFs ss) (readFs ts) else none

def SqRet (o : Option (List F × List F)) (w : World) (e : Ending) (w' : World) : Prop :=
  Below w.heap.size w w' ∧ ∃ A n c B m d, e = .returned (.tuple #[.agg #[.slice A n c, .slice B m d], .bool o.isSome]) ∧ ∀ fs gs, o = some (fs, gs) → RowF w.heap.size w' A n fs ∧ RowF w.heap.size w' B m gs

theorem readSequent_any (A B : Option Addr) (n c m d : Nat) (ss ts : List ByteArray) (w : World) (hr : RowS w A n ss) (hs : RowS w B m ts) (hn : n ≤ 10000000) (hm : m ≤ 10000000) :
    Calls Try.prog 49 #[.slice A n c, .slice B m d] w (SqRet (readSq ss ts) w) := by
  have hl := hr.1
  have hl2 := hs.1
  have s1 : IntKind.i64.wrap ((n : Int) + (m : Int)) = (n : Int) + (m : Int) := IntWalk.i64_in _ (by omega)
  by_cases h12 : 12 < n + m
  · have hno : Hid (∀ w', Below w.heap.size w w' → SqRet (readSq ss ts) w (.returned (.tuple #[.agg #[.slice none 0 0, .slice none 0 0], .bool false])) w') := by
      refine Lib.hid fun w' hb => ?_
      rw [readSq, if_neg (by omega)]
      exact ⟨hb, _, _, _, _, _, _, rfl, fun _ _ h => by cases h⟩
    have i1 : (12 : Int) < (n : Int) + (m : Int) := by omega
    clear hr hs hl hl2
    obtain ⟨z0, r0, r1, f0, f1⟩ := two_cells (heap_alloc_new w (.cells #[.slice none 0 0, .slice none 0 0] 64))
    go_enter Try.func49, Try.ntmps49
    go_wp2_with fail
    refine bodyPost_ret (v := .tuple #[.agg #[.slice none 0 0, .slice none 0 0], .bool false]) (by simp [results, Try.results49, go_sem, r0, r1]) rfl ?_
    exact hno.out _ (by repeat (with_reducible first | exact hbel | exact Below.refl _ _ | refine Below.drew ?_ | refine Below.drewN ?_ _ | refine Below.alloc ?_ (by first | (simp; done) | (simp; omega) | omega | (have := Below.size hbel; simp; omega) | (have := Below.size hbel; omega)) _ | refine Below.setCell ?_ (by first | (simp; done) | (simp; omega) | omega) _))
  · have i1 : ¬ (12 : Int) < (n : Int) + (m : Int) := by omega
    have hA := Lib.hid (fun W (hW : Below w.heap.size w W) => readFormulas_any A n c ss W (hr.below hW) (by omega))
    have hB := Lib.hid (fun W (hW : Below w.heap.size w W) => readFormulas_any B m d ts W (hs.below hW) (by omega))
    have hq : readSq ss ts = bothO (readFs ss) (readFs ts) := by rw [readSq, if_pos (by omega)]
    rw [hq]
    clear hr hs hq hl hl2
    generalize readFs ss = o1 at *
    generalize readFs ts = o2 at *
    have hR : Hid (∀ W', Below (w.heap.size + 1) (w.alloc (.cells #[.slice none 0 0, .slice none 0 0] 64)) W' → W'.heap[w.heap.size]? = some (.cells #[.slice none 0 0, .slice none 0 0] 64 (0, 0))) :=
      fun W' h => (h.block _ (by simp)).trans (heap_alloc_new w _)
    go_enter Try.func49, Try.ntmps49
    go_wp2_with fail
    refine (hA.out _ (by repeat (with_reducible first | exact hbel | exact Below.refl _ _ | refine Below.drew ?_ | refine Below.drewN ?_ _ | refine Below.alloc ?_ (by first | (simp; done) | (simp; omega) | omega | (have := Below.size hbel; simp; omega) | (have := Below.size hbel; omega)) _ | refine Below.setCell ?_ (by first | (simp; done) | (simp; omega) | omega) _))).mono ?_
    rintro e w1 ⟨hb1, A1, c1, n1, rfl, hr1⟩
    have hw1 := Lib.hid (below_step ((Below.refl _ _).alloc (Nat.le_refl _) _ : Below w.heap.size w (w.alloc _)) (by simp) hb1)
    have hv1 : Below (w.heap.size + 1) (w.alloc (.cells #[.slice none 0 0, .slice none 0 0] 64)) w1 := hb1.mono (by simp)
    have hr1' := Lib.hid hr1
    have hz1 : w.heap.size < w1.heap.size := Nat.lt_of_lt_of_le (by simp) hb1.size
    clear hb1 hr1
    generalize he1 : o1.isSome = k1
    go_wp2_with fail
    refine (hB.out _ hw1.out).mono ?_
    rintro e w2 ⟨hb2, A2, c2, n2, rfl, hr2⟩
    have hw2 := Lib.hid (below_step hw1.out (Nat.le_refl _) hb2)
    have hr2' := Lib.hid hr2
    have hr1'' := Lib.hid (fun fs h => (hr1'.out fs h).below hb2)
    generalize he2 : o2.isSome = k2
    obtain ⟨z0, r0, r1, f0, f1⟩ := two_cells (hR.out w2 (hv1.trans (hb2.mono hz1)))
    clear hb2 hv1 hr2 hr1'
    have hno : Hid (bothO o1 o2 = none → ∀ w', Below w.heap.size w w' → SqRet (bothO o1 o2) w (.returned (.tuple #[.agg #[.slice none 0 0, .slice none 0 0], .bool false])) w') := Lib.hid fun h w' hb => by
      rw [h]; exact ⟨hb, _, _, _, _, _, _, rfl, fun _ _ h => by cases h⟩
    cases k1
    · have h0 := Lib.hid (bothO_left (p := o2) he1)
      clear he1 he2
      go_wp2_with fail
      refine bodyPost_ret (v := .tuple #[.agg #[.slice none 0 0, .slice none 0 0], .bool false]) (by simp [results, Try.results49, go_sem, r0, r1]) rfl ?_
      have hbel := hw2.out
      exact hno.out h0.out _ (by repeat (with_reducible first | exact hbel | exact Below.refl _ _ | refine Below.drew ?_ | refine Below.drewN ?_ _ | refine Below.alloc ?_ (by first | (simp; done) | (simp; omega) | omega | (have := Below.size hbel; simp; omega) | (have := Below.size hbel; omega)) _ | refine Below.setCell ?_ (by first | (simp; done) | (simp; omega) | omega) _))
    · cases k2
      · have h0 := Lib.hid (bothO_right (o := o1) he2)
        clear he1 he2
        go_wp2_with fail
        refine bodyPost_ret (v := .tuple #[.agg #[.slice none 0 0, .slice none 0 0], .bool false]) (by simp [results, Try.results49, go_sem, r0, r1]) rfl ?_
        have hbel := hw2.out
        exact hno.out h0.out _ (by repeat (with_reducible first | exact hbel | exact Below.refl _ _ | refine Below.drew ?_ | refine Below.drewN ?_ _ | refine Below.alloc ?_ (by first | (simp; done) | (simp; omega) | omega | (have := Below.size hbel; simp; omega) | (have := Below.size hbel; omega)) _ | refine Below.setCell ?_ (by first | (simp; done) | (simp; omega) | omega) _))
      · have hyes : Hid (∀ w', w'.heap.size = w2.heap.size → (∀ j, j ≠ w.heap.size → w'.heap[j]? = w2.heap[j]?) → Below w.heap.size w w' → SqRet (bothO o1 o2) w (.returned (.tuple #[.agg #[.slice A1 n1 c1, .slice A2 n2 c2], .bool true])) w') := by
          refine Lib.hid fun w' hs he hb => ?_
          obtain ⟨fs, gs, e1, e2, e3⟩ := bothO_some he1 he2
          rw [e3]
          refine ⟨hb, _, _, _, _, _, _, rfl, fun fs' gs' h => ?_⟩
          cases h
          exact ⟨((hr1''.out _ e1).same (r := w.heap.size) (by simp) hs he).mono (by simp), ((hr2'.out _ e2).same (r := w.heap.size) (by omega) hs he).mono (by omega)⟩
        clear he1 he2
        go_wp2_with fail
        refine bodyPost_ret (v := .tuple #[.agg #[.slice A1 n1 c1, .slice A2 n2 c2], .bool true]) (by simp [results, Try.results49, go_sem, r0, r1]) rfl ?_
        have hbel := hw2.out
        exact hyes.out _ (by simp) (same_set _ _ _ _) (by repeat (with_reducible first | exact hbel | exact Below.refl _ _ | refine Below.drew ?_ | refine Below.drewN ?_ _ | refine Below.alloc ?_ (by first | (simp; done) | (simp; omega) | omega | (have := Below.size hbel; simp; omega) | (have := Below.size hbel; omega)) _ | refine Below.setCell ?_ (by first | (simp; done) | (simp; omega) | omega) _))

end Go.Proofs.Ytmnppkmgohpmaaa
