/- impl.SequentValid, impl.SequentFails. -/
import Derived.Test.YtmnppkmgohpmaaaFirst
namespace Go.Proofs.Ytmnppkmgohpmaaa
open Go.RowKit

def validO : Option (List F × List F) → Bool
  | none => false
  | some q => decide ((seqL q.1 q.2).length ≤ 10) && !(ff (seqL q.1 q.2) q.1 q.2).isSome
def failB : Option (List F × List F) → Bool
  | none => false
  | some q => decide ((seqL q.1 q.2).length ≤ 10) && (ff (seqL q.1 q.2) q.1 q.2).isSome
def failL : Option (List F × List F) → List ByteArray
  | none => []
  | some q => if (seqL q.1 q.2).length ≤ 10 then ffL (seqL q.1 q.2) q.1 q.2 else []

theorem isIn_mem {s t : ByteArray} {l : List ByteArray} (h : t ∈ l) : t = s ∨ t ∈ l := .inr h
theorem addL_let : ∀ (f : F) (acc : List ByteArray), f.ok = true → (∀ s ∈ acc, s.size ≤ maxLen) → ∀ s ∈ addL acc f, s.size ≤ maxLen
  | .lt t, acc, h, ha => by
    intro s hs
    rw [addL] at hs
    split at hs
    · exact ha s hs
    · rcases List.mem_append.1 hs with hs | hs
      · exact ha s hs
      · simp at hs
        subst hs
        have := let_size h
        unfold maxLen
        simp [ByteArray.size]
        omega
  | .an a b, acc, h, ha => by
    rw [F.ok, Bool.and_eq_true] at h
    rw [addL]
    exact addL_let b _ h.2 (addL_let a _ h.1 ha)
  | .or a b, acc, h, ha => by
    rw [F.ok, Bool.and_eq_true] at h
    rw [addL]
    exact addL_let b _ h.2 (addL_let a _ h.1 ha)
  | .no a, acc, h, ha => by
    rw [F.ok] at h
    rw [addL]
    exact addL_let a _ h ha
theorem addAll_let : ∀ (fs : List F) (acc : List ByteArray), (∀ f ∈ fs, f.ok = true) → (∀ s ∈ acc, s.size ≤ maxLen) → ∀ s ∈ addAll acc fs, s.size ≤ maxLen
  | [], acc, _, ha => ha
  | f :: fs, acc, h, ha => addAll_let fs (addL acc f) (fun g hg => h g (by simp [hg])) (addL_let f acc (h f (by simp)) ha)
theorem seqL_let {fs gs : List F} (h : ∀ f ∈ fs, f.ok = true) (h' : ∀ g ∈ gs, g.ok = true) : ∀ s ∈ seqL fs gs, s.size ≤ maxLen :=
  addAll_let gs _ h' (addAll_let fs [] h (by simp))

set_option maxRecDepth 100000 in
theorem implSeqValid_any (A B : Option Addr) (n c m d : Nat) (ss ts : List ByteArray) (w : World) (hA : RowS w A n ss) (hB : RowS w B m ts) (hn : n ≤ 10000000) (hm : m ≤ 10000000) :
    Calls Try.prog 32 #[.slice A n c, .slice B m d] w fun e w' => e = .returned (.bool (validO (readSq ss ts))) ∧ Below w.heap.size w w' := by
  generalize hb : validO (readSq ss ts) = z
  have hb' := Lib.hid hb
  have hR := Lib.hid (fun W (hW : Below w.heap.size w W) => readSequent_any A B n c m d ss ts W (hA.below hW) (hB.below hW) hn hm)
  clear hb hA hB
  go_enter Try.func32, Try.ntmps32
  go_wp2_with fail
  refine (hR.out _ (by repeat (with_reducible first | exact hbel | exact Below.refl _ _ | refine Below.drew ?_ | refine Below.drewN ?_ _ | refine Below.alloc ?_ (by first | (simp; done) | (simp; omega) | omega | (have := Below.size hbel; simp; omega) | (have := Below.size hbel; omega)) _ | refine Below.setCell ?_ (by first | (simp; done) | (simp; omega) | omega) _))).mono ?_
  rintro e w1 ⟨hb1, A1, n1, c1, B1, m1, d1, rfl, hr1⟩
  have hw1 := Lib.hid hb1
  clear hb1
  cases hrd : readSq ss ts with
  | none =>
    have hbt : Hid (false = z) := by have h := hb'.out; rw [hrd] at h; exact h
    clear hrd hr1
    rw [show (none : Option (List F × List F)).isSome = false from rfl]
    go_wp2_with fail
    go_ret
    have hbel := hw1.out
    exact ⟨ret_bool hbt.out, (by repeat (with_reducible first | exact hbel | exact Below.refl _ _ | refine Below.drew ?_ | refine Below.drewN ?_ _ | refine Below.alloc ?_ (by first | (simp; done) | (simp; omega) | omega | (have := Below.size hbel; simp; omega) | (have := Below.size hbel; omega)) _ | refine Below.setCell ?_ (by first | (simp; done) | (simp; omega) | omega) _))⟩
  | some q =>
    obtain ⟨fs, gs⟩ := q
    obtain ⟨h12, r1, r2⟩ := readSq_ok hrd
    obtain ⟨hf, hg⟩ := hr1 fs gs hrd
    have o1 := fun f h => (readFs_ok r1 f h).1
    have o2 := fun f h => (readFs_ok r2 f h).1
    have hbt : Hid ((decide ((seqL fs gs).length ≤ 10) && !(ff (seqL fs gs) fs gs).isSome) = z) := by have h := hb'.out; rw [hrd] at h; exact h
    have hL := Lib.hid (fun W (hW : Below w1.heap.size w1 W) => sqLetters_any w.heap.size A1 B1 n1 c1 m1 d1 fs gs W (hf.below hW) (hg.below hW) (fun f h => (readFs_ok r1 f h).2) (fun f h => (readFs_ok r2 f h).2) (by have := hf.1; have := hg.1; omega))
    have hF := Lib.hid (fun W C k e (hW : Below w1.heap.size w1 W) (hC : RowS W C k (seqL fs gs)) (hk : k ≤ 10) => first_any w.heap.size A1 B1 C n1 c1 m1 d1 k e fs gs (seqL fs gs) W (hf.below hW) (hg.below hW) hC o1 o2 (by have := hf.1; have := hg.1; omega) hk (seqL_let o1 o2))
    have hlen : (seqL fs gs).length ≤ 1000000 := by
      have a1 := addAll_length gs (addAll [] fs)
      have a2 := addAll_length fs []
      have b1 := sizes_le (fun f h => (readFs_ok r1 f h).2)
      have b2 := sizes_le (fun f h => (readFs_ok r2 f h).2)
      unfold seqL
      simp at a2
      omega
    have hS := two_kept w1 (.slice A1 n1 c1) (.slice B1 m1 d1) 64
    clear hrd hr1 hf hg r1 r2 o1 o2
    rw [show (some (fs, gs) : Option (List F × List F)).isSome = true from rfl]
    generalize seqL fs gs = L at *
    go_wp2_with fail
    refine (hL.out _ ((Below.refl _ _).alloc (Nat.le_refl _) _)).mono ?_
    rintro e w2 ⟨C, k, rfl, R, hb2⟩
    have hw2 := Lib.hid (below_step (bb_alloc hw1.out _) (Nat.le_refl _) hb2)
    obtain ⟨x0, x1⟩ := hS.out w2 (hb2.mono (by simp))
    have hv2 := Lib.hid (below_step ((Below.refl _ _).alloc (Nat.le_refl _) _) (by simp) hb2 : Below w1.heap.size w1 w2)
    have R' := Lib.hid R
    clear hb2 R
    by_cases h10 : 10 < L.length
    · have hbf : Hid (false = z) := Lib.hid (by have h := hbt.out; rw [decide_eq_false (by omega)] at h; exact h)
      go_wp2_with fail
      go_ret
      have hbel := hw2.out
      exact ⟨ret_bool hbf.out, (by repeat (with_reducible first | exact hbel | exact Below.refl _ _ | refine Below.drew ?_ | refine Below.drewN ?_ _ | refine Below.alloc ?_ (by first | (simp; done) | (simp; omega) | omega | (have := Below.size hbel; simp; omega) | (have := Below.size hbel; omega)) _ | refine Below.setCell ?_ (by first | (simp; done) | (simp; omega) | omega) _))⟩
    · have hbf : Hid ((!(ff L fs gs).isSome) = z) := Lib.hid (by have h := hbt.out; rw [decide_eq_true (by omega)] at h; exact h)
      have hcall := Lib.hid (fun k => hF.out w2 C L.length k hv2.out R'.out (by omega))
      generalize (ff L fs gs).isSome = bb at *
      go_wp2_with fail
      refine (hcall.out _).mono ?_
      rintro e w3 ⟨C3, k3, rfl, own3, hb3⟩
      clear own3
      go_wp2_with fail
      go_ret
      exact ⟨ret_bool hbf.out, below_step hw2.out (Nat.le_refl _) hb3⟩

end Go.Proofs.Ytmnppkmgohpmaaa
