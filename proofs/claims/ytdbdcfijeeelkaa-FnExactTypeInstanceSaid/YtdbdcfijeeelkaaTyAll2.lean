/- spec.l3All. -/
import Derived.Test.YtdbdcfijeeelkaaTyAll
namespace Go.Proofs.Ytdbdcfijeeelkaa
set_option linter.unusedVariables false
open Go.RowKit

set_option maxRecDepth 100000 in
set_option maxHeartbeats 1000000 in
theorem l3All_any (A : Option Addr) (n c : Nat) (ss : List ByteArray) (B : Option Addr) (m d : Nat) (ts : List ByteArray) (s : ByteArray) (w : World) (hA : RowS w A n ss) (hB : RowS w B m ts) (hn : n ≤ 10000000) (hm : m ≤ 10000000) (hnc : n ≤ c) :
    Calls Try.prog 27 #[tyV A n c B m d s] w fun e w' => e = .returned (.bool (allN ss ts && (readWh s).isSome)) ∧ Below w.heap.size w w' := by
  have hN := Lib.hid (fun W (hW : Below w.heap.size w W) => l3Names_any A n c ss B m d ts W (hA.below hW) (hB.below hW) hn hm hnc)
  have hV := Lib.hid (fun W => specValid_any s W)
  have hk : Hid (∀ W', Below (w.heap.size + 1) (w.alloc (.cells #[.slice A n c, .slice B m d, .string s] 26)) W' → W'.heap[w.heap.size]? = some (.cells #[.slice A n c, .slice B m d, .string s] 26 (0, 0))) := Lib.hid fun W' h => (h.block _ (by simp)).trans (heap_alloc_new w _)
  clear hA hB
  cases hb : allN ss ts
  · rw [hb] at hN
    clear hb
    go_enter Try.func27, Try.ntmps27
    go_wp2_with (first | (go_at_call 41; refine Calls.mono (hN.out _ (by repeat (with_reducible first | exact hbel | exact Below.refl _ _ | refine Below.drew ?_ | refine Below.drewN ?_ _ | refine Below.alloc ?_ (by first | (simp; done) | (simp; omega) | omega | (have := Below.size hbel; simp; omega) | (have := Below.size hbel; omega)) _ | refine Below.setCell ?_ (by first | (simp; done) | (simp; omega) | omega) _))) ?_; rintro e w1 ⟨rfl, hb1⟩; obtain ⟨z0, a0, a1, a2, -⟩ := three_cells (hk.out w1 (hb1.mono (by simp)))))
    go_ret
    exact ⟨rfl, below_step (by repeat (with_reducible first | exact hbel | exact Below.refl _ _ | refine Below.drew ?_ | refine Below.drewN ?_ _ | refine Below.alloc ?_ (by first | (simp; done) | (simp; omega) | omega | (have := Below.size hbel; simp; omega) | (have := Below.size hbel; omega)) _ | refine Below.setCell ?_ (by first | (simp; done) | (simp; omega) | omega) _)) (by simp) hb1⟩
  · rw [hb] at hN
    clear hb
    by_cases hse : s.size = 0
    · have hsb : (s.toList == []) = true := by rw [Lib.toList_data, beq_iff_eq]; rw [ba_size] at hse; exact List.eq_nil_of_length_eq_zero hse
      have hr := Lib.hid (readWh_empty hse)
      clear hse
      go_enter Try.func27, Try.ntmps27
      go_wp2_with (first | (go_at_call 41; refine Calls.mono (hN.out _ (by repeat (with_reducible first | exact hbel | exact Below.refl _ _ | refine Below.drew ?_ | refine Below.drewN ?_ _ | refine Below.alloc ?_ (by first | (simp; done) | (simp; omega) | omega | (have := Below.size hbel; simp; omega) | (have := Below.size hbel; omega)) _ | refine Below.setCell ?_ (by first | (simp; done) | (simp; omega) | omega) _))) ?_; rintro e w1 ⟨rfl, hb1⟩; obtain ⟨z0, a0, a1, a2, -⟩ := three_cells (hk.out w1 (hb1.mono (by simp)))))
      go_ret
      exact ⟨by rw [hr.out]; rfl, below_step (by repeat (with_reducible first | exact hbel | exact Below.refl _ _ | refine Below.drew ?_ | refine Below.drewN ?_ _ | refine Below.alloc ?_ (by first | (simp; done) | (simp; omega) | omega | (have := Below.size hbel; simp; omega) | (have := Below.size hbel; omega)) _ | refine Below.setCell ?_ (by first | (simp; done) | (simp; omega) | omega) _)) (by simp) hb1⟩
    · have hsb : (s.toList == []) = false := by rw [Lib.toList_data, beq_eq_false_iff_ne]; intro e; rw [ba_size, e] at hse; exact hse rfl
      have hr : Hid ((readWh s).isSome = (readF s.data.toList).isSome) := Lib.hid (by rw [readWh_full hse]; cases readF s.data.toList <;> rfl)
      clear hse
      cases hf : (readF s.data.toList).isSome
      all_goals
        have hfh := Lib.hid hf
        rw [hf] at hV
        clear hf
        go_enter Try.func27, Try.ntmps27
        go_wp2_with (first | (go_at_call 41; refine Calls.mono (hN.out _ (by repeat (with_reducible first | exact hbel | exact Below.refl _ _ | refine Below.drew ?_ | refine Below.drewN ?_ _ | refine Below.alloc ?_ (by first | (simp; done) | (simp; omega) | omega | (have := Below.size hbel; simp; omega) | (have := Below.size hbel; omega)) _ | refine Below.setCell ?_ (by first | (simp; done) | (simp; omega) | omega) _))) ?_; rintro e w1 ⟨rfl, hb1⟩; obtain ⟨z0, a0, a1, a2, -⟩ := three_cells (hk.out w1 (hb1.mono (by simp)))) | (go_at_call 15; refine Calls.mono (hV.out _) ?_; rintro e w2 ⟨rfl, hb2⟩))
        go_ret
        exact ⟨by rw [hr.out, hfh.out]; rfl, below_step (below_step (by repeat (with_reducible first | exact hbel | exact Below.refl _ _ | refine Below.drew ?_ | refine Below.drewN ?_ _ | refine Below.alloc ?_ (by first | (simp; done) | (simp; omega) | omega | (have := Below.size hbel; simp; omega) | (have := Below.size hbel; omega)) _ | refine Below.setCell ?_ (by first | (simp; done) | (simp; omega) | omega) _)) (by simp) hb1) (Nat.le_refl _) hb2⟩

end Go.Proofs.Ytdbdcfijeeelkaa
