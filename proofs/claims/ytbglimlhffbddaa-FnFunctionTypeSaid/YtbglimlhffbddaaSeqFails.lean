/- impl.SequentFails and spec.SequentFails. -/
import Derived.Test.YtbglimlhffbddaaSeqValid
namespace Go.Proofs.Ytbglimlhffbddaa
set_option linter.unusedVariables false
open Go.RowKit

set_option maxRecDepth 100000 in
theorem implSeqFails_any (A B : Option Addr) (n c m d : Nat) (ss ts : List ByteArray) (w : World) (hA : RowS w A n ss) (hB : RowS w B m ts) (hn : n ≤ 10000000) (hm : m ≤ 10000000) :
    Calls Try.prog 8 #[.slice A n c, .slice B m d] w (SRet (failL (readSq ss ts)) (failB (readSq ss ts)) w) := by
  have no : Hid (failL (readSq ss ts) = [] → failB (readSq ss ts) = false → ∀ W, Below w.heap.size w W → SRet (failL (readSq ss ts)) (failB (readSq ss ts)) w (.returned (.tuple #[.slice none 0 0, .bool false])) W) := Lib.hid fun h1 h2 W hW => by
    rw [h1, h2]; exact ⟨none, 0, rfl, World.ownsRow_nil _ _ _ _, hW⟩
  have hR := Lib.hid (fun W (hW : Below w.heap.size w W) => readSequent_any A B n c m d ss ts W (hA.below hW) (hB.below hW) hn hm)
  clear hA hB
  go_enter Try.func8, Try.ntmps8
  go_wp2_with fail
  refine (hR.out _ (by repeat (with_reducible first | exact hbel | exact Below.refl _ _ | refine Below.drew ?_ | refine Below.drewN ?_ _ | refine Below.alloc ?_ (by first | (simp; done) | (simp; omega) | omega | (have := Below.size hbel; simp; omega) | (have := Below.size hbel; omega)) _ | refine Below.setCell ?_ (by first | (simp; done) | (simp; omega) | omega) _))).mono ?_
  rintro e w1 ⟨hb1, A1, n1, c1, B1, m1, d1, rfl, hr1⟩
  have hw1 := Lib.hid hb1
  clear hb1
  cases hrd : readSq ss ts with
  | none =>
    have q0 : Hid (failL (readSq ss ts) = [] ∧ failB (readSq ss ts) = false) := Lib.hid (by rw [hrd]; exact ⟨rfl, rfl⟩)
    clear hrd hr1
    rw [show (none : Option (List F × List F)).isSome = false from rfl]
    go_wp2_with fail
    go_ret2
    have hbel := hw1.out
    exact no.out q0.out.1 q0.out.2 _ (by repeat (with_reducible first | exact hbel | exact Below.refl _ _ | refine Below.drew ?_ | refine Below.drewN ?_ _ | refine Below.alloc ?_ (by first | (simp; done) | (simp; omega) | omega | (have := Below.size hbel; simp; omega) | (have := Below.size hbel; omega)) _ | refine Below.setCell ?_ (by first | (simp; done) | (simp; omega) | omega) _))
  | some q =>
    obtain ⟨fs, gs⟩ := q
    obtain ⟨h12, r1, r2⟩ := readSq_ok hrd
    obtain ⟨hf, hg⟩ := hr1 fs gs hrd
    have o1 := fun f h => (readFs_ok r1 f h).1
    have o2 := fun f h => (readFs_ok r2 f h).1
    have e1 : failL (readSq ss ts) = if (seqL fs gs).length ≤ 10 then ffL (seqL fs gs) fs gs else [] := by rw [hrd]; rfl
    have e2 : failB (readSq ss ts) = (decide ((seqL fs gs).length ≤ 10) && (ff (seqL fs gs) fs gs).isSome) := by rw [hrd]; rfl
    have hL := Lib.hid (fun W (hW : Below w1.heap.size w1 W) => sqLetters_any w.heap.size A1 B1 n1 c1 m1 d1 fs gs W (hf.below hW) (hg.below hW) (fun f h => (readFs_ok r1 f h).2) (fun f h => (readFs_ok r2 f h).2) (by have := hf.1; have := hg.1; omega))
    have hF := Lib.hid (fun W C k e (hW : Below w1.heap.size w1 W) (hC : RowS W C k (seqL fs gs)) (hk : k ≤ 10) => first_any w.heap.size A1 B1 C n1 c1 m1 d1 k e fs gs (seqL fs gs) W (hf.below hW) (hg.below hW) hC o1 o2 (by have := hf.1; have := hg.1; omega) hk (seqL_let o1 o2))
    have hlen : (seqL fs gs).length ≤ 1000000 := by
      have a1 := addAll_length gs (addAll [] fs)
      have a2 := addAll_length fs []
      have b1 := sizes_le (fun f h => (readFs_ok r1 f h).2)
      have b2 := sizes_le (fun f h => (readFs_ok r2 f h).2)
      unfold seqL
      simp at a2
      omega
    have hS := two_kept w1 (.slice A1 n1 c1) (.slice B1 m1 d1) 47
    clear hrd hr1 hf hg r1 r2 o1 o2
    rw [show (some (fs, gs) : Option (List F × List F)).isSome = true from rfl]
    generalize seqL fs gs = L at *
    have e1' := Lib.hid e1
    have e2' := Lib.hid e2
    clear e1 e2
    go_wp2_with fail
    refine (hL.out _ ((Below.refl _ _).alloc (Nat.le_refl _) _)).mono ?_
    rintro e w2 ⟨C, k, rfl, R, hb2⟩
    have hw2 := Lib.hid (below_step (bb_alloc hw1.out _) (Nat.le_refl _) hb2)
    obtain ⟨x0, x1⟩ := hS.out w2 (hb2.mono (by simp))
    have hv2 := Lib.hid (below_step ((Below.refl _ _).alloc (Nat.le_refl _) _) (by simp) hb2 : Below w1.heap.size w1 w2)
    have R' := Lib.hid R
    clear hb2 R
    by_cases h10 : 10 < L.length
    · have q0 : Hid (failL (readSq ss ts) = [] ∧ failB (readSq ss ts) = false) := Lib.hid ⟨by rw [e1'.out, if_neg (by omega)], by rw [e2'.out, decide_eq_false (by omega)]; rfl⟩
      go_wp2_with fail
      go_ret2
      have hbel := hw2.out
      exact no.out q0.out.1 q0.out.2 _ (by repeat (with_reducible first | exact hbel | exact Below.refl _ _ | refine Below.drew ?_ | refine Below.drewN ?_ _ | refine Below.alloc ?_ (by first | (simp; done) | (simp; omega) | omega | (have := Below.size hbel; simp; omega) | (have := Below.size hbel; omega)) _ | refine Below.setCell ?_ (by first | (simp; done) | (simp; omega) | omega) _))
    · have e1'' := e1'.out
      have e2'' := e2'.out
      rw [if_pos (by omega)] at e1''
      rw [decide_eq_true (by omega), Bool.true_and] at e2''
      have hcall := Lib.hid (fun k => hF.out w2 C L.length k hv2.out R'.out (by omega))
      rw [← e1'', ← e2''] at hcall
      generalize failL (readSq ss ts) = oL at *
      generalize failB (readSq ss ts) = oB at *
      clear e1'' e2'' e1' e2' no
      go_wp2_with fail
      refine (hcall.out _).mono ?_
      rintro e w3 ⟨C3, k3, rfl, own3, hb3⟩
      have own3' := Lib.hid (own3.mono hw2.out.size)
      have hb3' := Lib.hid (below_step hw2.out (Nat.le_refl _) hb3)
      clear own3 hb3
      go_wp2_with fail
      go_ret2
      exact ⟨C3, k3, rfl, own3'.out, hb3'.out⟩

theorem l1F_list (L : List ByteArray) (fs gs : List F) : (l1F L fs gs).1 = if L.length ≤ 10 then ffL L fs gs else [] := by
  unfold l1F ffL
  by_cases h : 10 < L.length
  · rw [if_pos h, if_neg (by omega)]
  · rw [if_neg h, if_pos (by omega)]
    cases ff L fs gs <;> rfl
theorem l1F_one (L : List ByteArray) (fs gs : List F) : ((l1F L fs gs).2 == 1) = (decide (L.length ≤ 10) && (ff L fs gs).isSome) := by
  unfold l1F
  by_cases h : 10 < L.length
  · rw [if_pos h, decide_eq_false (by omega)]; rfl
  · rw [if_neg h, decide_eq_true (by omega)]
    cases ff L fs gs <;> rfl

end Go.Proofs.Ytbglimlhffbddaa
