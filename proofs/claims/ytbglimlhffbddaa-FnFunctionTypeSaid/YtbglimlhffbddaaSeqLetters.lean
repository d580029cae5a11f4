/- The letters of a sequent: sequent.letters. -/
import Derived.Test.YtbglimlhffbddaaPick
import Derived.Test.YtbglimlhffbddaaLettersLaw
namespace Go.Proofs.Ytbglimlhffbddaa
set_option linter.unusedVariables false
open Go.RowKit

def seqL (fs gs : List F) : List ByteArray := addAll (addAll [] fs) gs

theorem sizes_le {fs : List F} (h : ∀ f ∈ fs, f.size ≤ 60) : sizes fs ≤ 60 * fs.length := by
  induction fs with
  | nil => simp [sizes]
  | cons f fs ih =>
    have h1 := h f (by simp)
    have h2 := ih (fun g hg => h g (by simp [hg]))
    rw [sizes, List.length_cons]
    omega

set_option maxRecDepth 100000 in
theorem sqLetters_any (lo : Nat) (A B : Option Addr) (n c m d : Nat) (fs gs : List F) (w : World) (hf : RowF lo w A n fs) (hg : RowF lo w B m gs)
    (sf : ∀ f ∈ fs, f.size ≤ 60) (sg : ∀ g ∈ gs, g.size ≤ 60) (hn : n + m ≤ 12) :
    Calls Try.prog 15 #[.agg #[.slice A n c, .slice B m d]] w fun e w' => ∃ C k, e = .returned (.slice C (seqL fs gs).length k) ∧ RowS w' C (seqL fs gs).length (seqL fs gs) ∧ Below w.heap.size w w' := by
  have hS := two_kept w (.slice A n c) (.slice B m d) 47
  have hf' := Lib.hid hf
  have hg' := Lib.hid hg
  have hlf := Lib.hid hf.1
  have hlg := Lib.hid hg.1
  have z1 : sizes fs ≤ 60 * fs.length := sizes_le sf
  have z2 : sizes gs ≤ 60 * gs.length := sizes_le sg
  have e1 := hf.1
  have e2 := hg.1
  have z1' : sizes fs ≤ 720 := by omega
  have z2' : sizes gs ≤ 720 := by omega
  clear hf hg z1 z2 e1 e2
  have q1 := Lib.hid sf
  have q2 := Lib.hid sg
  clear sf sg
  go_enter Try.func15, Try.ntmps15
  go_wp2_with fail
  go_loopw [3, 11] (fun v i wr => ∃ (j : Nat) (P : List ByteArray) (C : Option Addr) (k : Nat), j ≤ n ∧ i = .int .i64 j ∧ v = .slice C P.length k ∧ P = addAll [] (fs.take j) ∧ P.length ≤ sizes (fs.take j) ∧
      wr.ownsRow (w.heap.size + 1) 9 1 (.slice C P.length k) P.length (P.map Value.string) ∧ Below w.heap.size w wr ∧ Below (w.heap.size + 1) (w.alloc (.cells #[.slice A n c, .slice B m d] 47)) wr)
    (fun _ i _ => n - (intOf i).toNat)
  case atStart => exact ⟨0, [], none, 0, Nat.zero_le _, rfl, rfl, rfl, Nat.zero_le _, World.ownsRow_nil _ _ _ _, (Below.refl _ _).alloc (Nat.le_refl _) _, Below.refl _ _⟩
  case round =>
    obtain ⟨j, P, C, k, hj, rfl, rfl, hP, hlen, own1, hb1, hx1⟩ := hrel
    have hsz1 : w.heap.size + 1 ≤ wr.heap.size := by have := hx1.size; simpa using this
    by_cases hlt : j < n
    · obtain ⟨g, o, rfl, ⟨-, hblt⟩, hc⟩ := hf'.out.2 (by omega)
      have l1 : j < fs.length := by have := hlf.out; omega
      obtain ⟨f, hfj⟩ : ∃ f, fs[j]? = some f := ⟨fs[j], List.getElem?_eq_getElem l1⟩
      have x1 := (hb1.cell (p := ⟨g, o + j, none⟩) hblt).trans (hc j f hfj)
      have i1 : (j : Int) < (n : Int) := by omega
      have i0' : (0 : Int) ≤ (j : Int) := by omega
      have t1 := sizes_take hfj
      have t2 := addAll_length (fs.take (j + 1)) []
      have hadd : Hid (addL P f = addAll [] (fs.take (j + 1))) := Lib.hid (by rw [addAll_take hfj, hP])
      have hlen2 : Hid ((addL P f).length ≤ sizes (fs.take (j + 1))) := Lib.hid (by rw [hadd.out]; simpa using t2)
      have hcall := Lib.hid (add_of f (w.heap.size + 1) P C k wr own1 hsz1 (by omega))
      have own1' := Lib.hid own1
      have hb1' := Lib.hid hb1
      have hx1' := Lib.hid hx1
      clear hc own1 hb1 hx1 hP hfj t1 t2
      go_wp2_with fail
      refine hcall.out.mono ?_
      rintro e w1 ⟨C1, k1, rfl, own2, gr, mv⟩
      have own2' := Lib.hid own2
      have hb2 := Lib.hid (hb1'.out.grown gr (by omega) (fun k hk => by have := (own1'.out.lt k hk).1; omega))
      have hx2 := Lib.hid (hx1'.out.grown gr hsz1 (fun k hk => (own1'.out.lt k hk).1))
      clear own2 gr mv
      go_wp2_with fail
      go_roundw
      case rel => exact ⟨j + 1, addL P f, C1, k1, by omega, by go_num, rfl, hadd.out, hlen2.out, own2'.out, hb2.out, hx2.out⟩
      case measure => simp [intOf]; omega
    · have hP' : Hid (P = addAll [] fs) := Lib.hid (by rw [List.take_of_length_le (by have := hlf.out; omega)] at hP; exact hP)
      have hlen' : P.length ≤ 720 := by rw [List.take_of_length_le (by have := hlf.out; omega)] at hlen; omega
      obtain ⟨x0, x1⟩ := hS.out wr hx1
      have own1' := Lib.hid own1
      have hb1' := Lib.hid hb1
      clear own1 hb1 hx1 hP hlen hf'
      go_wp2_with fail
      go_loopw [3, 22] (fun v i wr => ∃ (j : Nat) (Q : List ByteArray) (C : Option Addr) (k : Nat), j ≤ m ∧ i = .int .i64 j ∧ v = .slice C Q.length k ∧ Q = addAll P (gs.take j) ∧
          wr.ownsRow (w.heap.size + 1) 9 1 (.slice C Q.length k) Q.length (Q.map Value.string) ∧ Below w.heap.size w wr ∧ w.heap.size + 1 ≤ wr.heap.size)
        (fun _ i _ => m - (intOf i).toNat)
      case atStart => exact ⟨0, P, C, k, Nat.zero_le _, rfl, rfl, rfl, own1'.out, hb1'.out, hsz1⟩
      case round =>
        obtain ⟨j2, Q, C2, k2, hj2, rfl, rfl, hQ, own1, hb1, hsz2⟩ := hrel
        by_cases hlt2 : j2 < m
        · obtain ⟨g, o, rfl, ⟨-, hblt⟩, hc⟩ := hg'.out.2 (by omega)
          have l1 : j2 < gs.length := by have := hlg.out; omega
          obtain ⟨f, hfj⟩ : ∃ f, gs[j2]? = some f := ⟨gs[j2], List.getElem?_eq_getElem l1⟩
          have y1 := (hb1.cell (p := ⟨g, o + j2, none⟩) hblt).trans (hc j2 f hfj)
          have i1 : (j2 : Int) < (m : Int) := by omega
          have i0' : (0 : Int) ≤ (j2 : Int) := by omega
          have t1 := sizes_take hfj
          have t2 := addAll_length (gs.take j2) P
          have hadd : Hid (addL Q f = addAll P (gs.take (j2 + 1))) := Lib.hid (by rw [addAll_take hfj, hQ])
          have hcall := Lib.hid (add_of f (w.heap.size + 1) Q C2 k2 wr own1 hsz2 (by rw [hQ]; omega))
          have own3' := Lib.hid own1
          have hb3' := Lib.hid hb1
          clear hc own1 hb1 hQ hfj t1 t2
          go_wp2_with fail
          refine hcall.out.mono ?_
          rintro e w1 ⟨C1, k1, rfl, own2, gr, mv⟩
          have own2' := Lib.hid own2
          have hb2 := Lib.hid (hb3'.out.grown gr (by omega) (fun k hk => by have := (own3'.out.lt k hk).1; omega))
          have hsz3 : w.heap.size + 1 ≤ w1.heap.size := Nat.le_trans hsz2 gr.size
          clear own2 gr mv
          go_wp2_with fail
          go_roundw
          case rel => exact ⟨j2 + 1, addL Q f, C1, k1, by omega, by go_num, rfl, hadd.out, own2'.out, hb2.out, hsz3⟩
          case measure => simp [intOf]; omega
        · have hfin : Hid (∃ C' k', (.returned (.slice C2 Q.length k2) : Ending) = .returned (.slice C' (seqL fs gs).length k') ∧ RowS wr C' (seqL fs gs).length (seqL fs gs) ∧ Below w.heap.size w wr) := by
            rw [List.take_of_length_le (by have := hlg.out; omega)] at hQ
            have e : Q = seqL fs gs := by rw [hQ, hP'.out]; rfl
            subst e
            exact ⟨C2, k2, rfl, RowS.of_own own1, hb1⟩
          clear own1 hb1 hQ
          go_wp2_with fail
          go_ret
          exact hfin.out

end Go.Proofs.Ytbglimlhffbddaa
