/- impl.SequentHolds. -/
import Derived.Test.YtmnppkmgohpmaaaSeqHolds
namespace Go.Proofs.Ytmnppkmgohpmaaa
open Go.RowKit

def sqO (L : List ByteArray) : Option (List F × List F) → Bool
  | none => false
  | some q => seqHolds L q.1 q.2

theorem readSq_ok {ss ts : List ByteArray} {fs gs : List F} (h : readSq ss ts = some (fs, gs)) : fs.length + gs.length ≤ 12 ∧ readFs ss = some fs ∧ readFs ts = some gs := by
  unfold readSq at h
  split at h
  · cases h1 : readFs ss with
    | none => rw [h1] at h; cases h2 : readFs ts <;> rw [h2] at h <;> cases h
    | some a => cases h2 : readFs ts with
      | none => rw [h1, h2] at h; cases h
      | some b =>
        rw [h1, h2] at h
        cases h
        exact ⟨by rw [readFs_length h1, readFs_length h2]; omega, rfl, rfl⟩
  · cases h

set_option maxRecDepth 100000 in
theorem implSeqHolds_any (A B C : Option Addr) (n c m d k e : Nat) (ss ts L : List ByteArray) (w : World) (hA : RowS w A n ss) (hB : RowS w B m ts) (hC : ArgS w C k L) (hn : n ≤ 10000000) (hm : m ≤ 10000000) (hk : k ≤ 10000000) :
    Calls Try.prog 30 #[.slice A n c, .slice B m d, .slice C k e] w fun e w' => e = .returned (.bool (sqO L (readSq ss ts))) ∧ Below w.heap.size w w' := by
  generalize hb : sqO L (readSq ss ts) = z
  have hb' := Lib.hid hb
  have hC' := Lib.hid hC
  have hR := Lib.hid (fun W (hW : Below w.heap.size w W) => readSequent_any A B n c m d ss ts W (hA.below hW) (hB.below hW) hn hm)
  clear hb hC hA hB
  go_enter Try.func30, Try.ntmps30
  go_wp2_with fail
  refine (hR.out _ (by repeat (with_reducible first | exact hbel | exact Below.refl _ _ | refine Below.drew ?_ | refine Below.drewN ?_ _ | refine Below.alloc ?_ (by first | (simp; done) | (simp; omega) | omega | (have := Below.size hbel; simp; omega) | (have := Below.size hbel; omega)) _ | refine Below.setCell ?_ (by first | (simp; done) | (simp; omega) | omega) _))).mono ?_
  rintro e w1 ⟨hb1, A1, n1, c1, B1, m1, d1, rfl, hr1⟩
  have hw1 := Lib.hid hb1
  clear hb1
  cases hrd : readSq ss ts with
  | none =>
    have hbt : Hid (false = z) := by have h := hb'.out; rw [hrd] at h; exact h
    clear hrd hr1
    rw [show (none : Option (List F × List F)).isSome = false from rfl]
    go_wp2_with fail
    go_region
    go_wp2_with fail
    go_ret
    have hbel := hw1.out
    exact ⟨ret_bool hbt.out, (by repeat (with_reducible first | exact hbel | exact Below.refl _ _ | refine Below.drew ?_ | refine Below.drewN ?_ _ | refine Below.alloc ?_ (by first | (simp; done) | (simp; omega) | omega | (have := Below.size hbel; simp; omega) | (have := Below.size hbel; omega)) _ | refine Below.setCell ?_ (by first | (simp; done) | (simp; omega) | omega) _))⟩
  | some q =>
    obtain ⟨fs, gs⟩ := q
    have hbt : Hid (seqHolds L fs gs = z) := by have h := hb'.out; rw [hrd] at h; exact h
    have hq := Lib.hid (readSq_ok hrd)
    obtain ⟨hf, hg⟩ := hr1 fs gs hrd
    have hf' := Lib.hid hf
    have hg' := Lib.hid hg
    clear hrd hr1 hf hg
    rw [show (some (fs, gs) : Option (List F × List F)).isSome = true from rfl]
    have hS := two_kept w1 (.slice A1 n1 c1) (.slice B1 m1 d1) 64
    have ht := Lib.hid (fun W (hW : Below w.heap.size w W) => truths_any C k e L W (hC'.out.below hW) hk)
    have hh := Lib.hid (fun W (hW : Below w1.heap.size w1 W) b (htr : TR W b L) => sqHolds_any L b w.heap.size A1 B1 n1 c1 m1 d1 fs gs W htr (hf'.out.below hW) (hg'.out.below hW)
      (fun f h => (readFs_ok hq.out.2.1 f h).1) (fun f h => (readFs_ok hq.out.2.2 f h).1) (by have := hf'.out.1; have := hq.out.1; omega) (by have := hg'.out.1; have := hq.out.1; omega))
    go_wp2_with fail
    go_region_held3 (fun w' => w'.cell? ⟨w1.heap.size, 0, none⟩ = some (.slice A1 n1 c1) ∧ w'.cell? ⟨w1.heap.size, 1, none⟩ = some (.slice B1 m1 d1))
      (first | exact keep0 hS.out | exact keep1 hS.out hb2 | exact keep2 hS.out hb2 hb3)
      (first
        | (go_at_call 42; refine Calls.mono (ht.out _ (bb_alloc hw1.out _).drew) ?_; rintro e w2 ⟨b, rfl, hm2, tr, hb2⟩)
        | (go_at_call 50; refine Calls.mono (hh.out _ (below_step ((Below.refl _ _).alloc (Nat.le_refl _) _).drew (by simp) hb2) b tr) ?_; rintro e w3 ⟨rfl, hb3⟩))
    all_goals
      go_wp2_with fail
      go_ret
      exact ⟨ret_bool hbt.out, below_step (below_step (bb_alloc hw1.out _).drew (Nat.le_refl _) hb2) (Nat.le_refl _) hb3⟩

end Go.Proofs.Ytmnppkmgohpmaaa
