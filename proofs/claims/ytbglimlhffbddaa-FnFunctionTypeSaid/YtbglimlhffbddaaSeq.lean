/- Sequents: impl.readFormulas, readSequent, holds. -/
import Derived.Test.YtbglimlhffbddaaHoldsLaw
import Derived.Test.YtbglimlhffbddaaForms
namespace Go.Proofs.Ytbglimlhffbddaa
set_option linter.unusedVariables false
open Go.RowKit

def bothO : Option (List F) → Option (List F) → Option (List F × List F)
  | some fs, some gs => some (fs, gs)
  | _, _ => none
theorem bothO_left {o p : Option (List F)} (h : o.isSome = false) : bothO o p = none := by cases o <;> cases p <;> first | rfl | cases h
theorem bothO_right {o p : Option (List F)} (h : p.isSome = false) : bothO o p = none := by cases o <;> cases p <;> first | rfl | cases h
theorem bothO_some {o p : Option (List F)} (h : o.isSome = true) (h' : p.isSome = true) : ∃ fs gs, o = some fs ∧ p = some gs ∧ bothO o p = some (fs, gs) := by
  cases o with
  | none => cases h
  | some fs => cases p with
    | none => cases h'
    | some gs => exact ⟨fs, gs, rfl, rfl, rfl⟩

/-- Both lists, where they are not too long. -/
def readSq (ss ts : List ByteArray) : Option (List F × List F) := if ss.length + ts.length ≤ 12 then bothO (readFs ss) (readFs ts) else none

def SqRet (o : Option (List F × List F)) (w : World) (e : Ending) (w' : World) : Prop :=
  Below w.heap.size w w' ∧ ∃ A n c B m d, e = .returned (.tuple #[.agg #[.slice A n c, .slice B m d], .bool o.isSome]) ∧ ∀ fs gs, o = some (fs, gs) → RowF w.heap.size w' A n fs ∧ RowF w.heap.size w' B m gs

theorem readSequent_any (A B : Option Addr) (n c m d : Nat) (ss ts : List ByteArray) (w : World) (hr : RowS w A n ss) (hs : RowS w B m ts) (hn : n ≤ 10000000) (hm : m ≤ 10000000) :
    Calls Try.prog 14 #[.slice A n c, .slice B m d] w (SqRet (readSq ss ts) w) := by
  have hl := hr.1
  have hl2 := hs.1
  have s1 : IntKind.i64.wrap ((n : Int) + (m : Int)) = (n : Int) + (m : Int) := IntWalk.i64_in _ (by omega)
  by_cases h12 : 12 < n + m
  · have hno : Hid (∀ w', Below w.heap.size w w' → SqRet (readSq ss ts) w (.returned (.tuple #[.agg #[.slice none 0 0, .slice none 0 0], .bool false])) w') := by
      refine Lib.hid fun w' hb => ?_
      rw [readSq, if_neg (by omega)]
      exact ⟨hb, _, _, _, _, _, _, rfl, fun _ _ h => by cases h⟩
    have i1 : (12 : Int) < (n : Int) + (m : Int) := by omega
    clear hr hs hl hl2
    obtain ⟨z0, r0, r1, f0, f1⟩ := two_cells (heap_alloc_new w (.cells #[.slice none 0 0, .slice none 0 0] 47))
    go_enter Try.func14, Try.ntmps14
    go_wp2_with fail
    refine bodyPost_ret (v := .tuple #[.agg #[.slice none 0 0, .slice none 0 0], .bool false]) (by simp [results, Try.results14, go_sem, r0, r1]) rfl ?_
    exact hno.out _ (by repeat (with_reducible first | exact hbel | exact Below.refl _ _ | refine Below.drew ?_ | refine Below.drewN ?_ _ | refine Below.alloc ?_ (by first | (simp; done) | (simp; omega) | omega | (have := Below.size hbel; simp; omega) | (have := Below.size hbel; omega)) _ | refine Below.setCell ?_ (by first | (simp; done) | (simp; omega) | omega) _))
  · have i1 : ¬ (12 : Int) < (n : Int) + (m : Int) := by omega
    have hA := Lib.hid (fun W (hW : Below w.heap.size w W) => readFormulas_any A n c ss W (hr.below hW) (by omega))
    have hB := Lib.hid (fun W (hW : Below w.heap.size w W) => readFormulas_any B m d ts W (hs.below hW) (by omega))
    have hq : readSq ss ts = bothO (readFs ss) (readFs ts) := by rw [readSq, if_pos (by omega)]
    rw [hq]
    clear hr hs hq hl hl2
    generalize readFs ss = o1 at *
    generalize readFs ts = o2 at *
    have hR : Hid (∀ W', Below (w.heap.size + 1) (w.alloc (.cells #[.slice none 0 0, .slice none 0 0] 47)) W' → W'.heap[w.heap.size]? = some (.cells #[.slice none 0 0, .slice none 0 0] 47 (0, 0))) :=
      fun W' h => (h.block _ (by simp)).trans (heap_alloc_new w _)
    go_enter Try.func14, Try.ntmps14
    go_wp2_with fail
    refine (hA.out _ (by repeat (with_reducible first | exact hbel | exact Below.refl _ _ | refine Below.drew ?_ | refine Below.drewN ?_ _ | refine Below.alloc ?_ (by first | (simp; done) | (simp; omega) | omega | (have := Below.size hbel; simp; omega) | (have := Below.size hbel; omega)) _ | refine Below.setCell ?_ (by first | (simp; done) | (simp; omega) | omega) _))).mono ?_
    rintro e w1 ⟨hb1, A1, c1, n1, rfl, hr1⟩
    have hw1 := Lib.hid (below_step ((Below.refl _ _).alloc (Nat.le_refl _) _ : Below w.heap.size w (w.alloc _)) (by simp) hb1)
    have hv1 : Below (w.heap.size + 1) (w.alloc (.cells #[.slice none 0 0, .slice none 0 0] 47)) w1 := hb1.mono (by simp)
    have hr1' := Lib.hid hr1
    have hz1 : w.heap.size < w1.heap.size := Nat.lt_of_lt_of_le (by simp) hb1.size
    clear hb1 hr1
    generalize he1 : o1.isSome = k1
    go_wp2_with fail
    refine (hB.out _ hw1.out).mono ?_
    rintro e w2 ⟨hb2, A2, c2, n2, rfl, hr2⟩
    have hw2 := Lib.hid (below_step hw1.out (Nat.le_refl _) hb2)
    have hr2' := Lib.hid hr2
    have hr1'' := Lib.hid (fun fs h => (hr1'.out fs h).below hb2)
    generalize he2 : o2.isSome = k2
    obtain ⟨z0, r0, r1, f0, f1⟩ := two_cells (hR.out w2 (hv1.trans (hb2.mono hz1)))
    clear hb2 hv1 hr2 hr1'
    have hno : Hid (bothO o1 o2 = none → ∀ w', Below w.heap.size w w' → SqRet (bothO o1 o2) w (.returned (.tuple #[.agg #[.slice none 0 0, .slice none 0 0], .bool false])) w') := Lib.hid fun h w' hb => by
      rw [h]; exact ⟨hb, _, _, _, _, _, _, rfl, fun _ _ h => by cases h⟩
    cases k1
    · have h0 := Lib.hid (bothO_left (p := o2) he1)
      clear he1 he2
      go_wp2_with fail
      refine bodyPost_ret (v := .tuple #[.agg #[.slice none 0 0, .slice none 0 0], .bool false]) (by simp [results, Try.results14, go_sem, r0, r1]) rfl ?_
      have hbel := hw2.out
      exact hno.out h0.out _ (by repeat (with_reducible first | exact hbel | exact Below.refl _ _ | refine Below.drew ?_ | refine Below.drewN ?_ _ | refine Below.alloc ?_ (by first | (simp; done) | (simp; omega) | omega | (have := Below.size hbel; simp; omega) | (have := Below.size hbel; omega)) _ | refine Below.setCell ?_ (by first | (simp; done) | (simp; omega) | omega) _))
    · cases k2
      · have h0 := Lib.hid (bothO_right (o := o1) he2)
        clear he1 he2
        go_wp2_with fail
        refine bodyPost_ret (v := .tuple #[.agg #[.slice none 0 0, .slice none 0 0], .bool false]) (by simp [results, Try.results14, go_sem, r0, r1]) rfl ?_
        have hbel := hw2.out
        exact hno.out h0.out _ (by repeat (with_reducible first | exact hbel | exact Below.refl _ _ | refine Below.drew ?_ | refine Below.drewN ?_ _ | refine Below.alloc ?_ (by first | (simp; done) | (simp; omega) | omega | (have := Below.size hbel; simp; omega) | (have := Below.size hbel; omega)) _ | refine Below.setCell ?_ (by first | (simp; done) | (simp; omega) | omega) _))
      · have hyes : Hid (∀ w', w'.heap.size = w2.heap.size → (∀ j, j ≠ w.heap.size → w'.heap[j]? = w2.heap[j]?) → Below w.heap.size w w' → SqRet (bothO o1 o2) w (.returned (.tuple #[.agg #[.slice A1 n1 c1, .slice A2 n2 c2], .bool true])) w') := by
          refine Lib.hid fun w' hs he hb => ?_
          obtain ⟨fs, gs, e1, e2, e3⟩ := bothO_some he1 he2
          rw [e3]
          refine ⟨hb, _, _, _, _, _, _, rfl, fun fs' gs' h => ?_⟩
          cases h
          exact ⟨((hr1''.out _ e1).same (r := w.heap.size) (by simp) hs he).mono (by simp), ((hr2'.out _ e2).same (r := w.heap.size) (by omega) hs he).mono (by omega)⟩
        clear he1 he2
        go_wp2_with fail
        refine bodyPost_ret (v := .tuple #[.agg #[.slice A1 n1 c1, .slice A2 n2 c2], .bool true]) (by simp [results, Try.results14, go_sem, r0, r1]) rfl ?_
        have hbel := hw2.out
        exact hyes.out _ (by simp) (same_set _ _ _ _) (by repeat (with_reducible first | exact hbel | exact Below.refl _ _ | refine Below.drew ?_ | refine Below.drewN ?_ _ | refine Below.alloc ?_ (by first | (simp; done) | (simp; omega) | omega | (have := Below.size hbel; simp; omega) | (have := Below.size hbel; omega)) _ | refine Below.setCell ?_ (by first | (simp; done) | (simp; omega) | omega) _))

end Go.Proofs.Ytbglimlhffbddaa
