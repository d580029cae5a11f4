/- spec.l2Word. -/
import Derived.Test.YtaihmfmfaejhiaaSpecD
namespace Go.Proofs.Ytaihmfmfaejhiaa
set_option linter.unusedVariables false
open Go.RowKit

abbrev wordsO : Obj := .cells #[str [112, 97, 105, 114], str [99, 97, 115, 101], str [105, 110, 108], str [102, 115, 116], str [105, 110, 114], str [115, 110, 100], str [110, 111, 116], str [110, 101, 103], str [109, 117], str [116, 109, 117]] 9
theorem words_cells {w wr : World} (h : Below (w.heap.size + 1) (w.alloc wordsO) wr) : w.heap.size < wr.heap.size ∧ wr.cell? ⟨w.heap.size, 0, none⟩ = some (str [112, 97, 105, 114]) ∧ wr.cell? ⟨w.heap.size, 1, none⟩ = some (str [99, 97, 115, 101]) ∧ wr.cell? ⟨w.heap.size, 2, none⟩ = some (str [105, 110, 108]) ∧ wr.cell? ⟨w.heap.size, 3, none⟩ = some (str [102, 115, 116]) ∧ wr.cell? ⟨w.heap.size, 4, none⟩ = some (str [105, 110, 114]) ∧ wr.cell? ⟨w.heap.size, 5, none⟩ = some (str [115, 110, 100]) ∧ wr.cell? ⟨w.heap.size, 6, none⟩ = some (str [110, 111, 116]) ∧ wr.cell? ⟨w.heap.size, 7, none⟩ = some (str [110, 101, 103]) ∧ wr.cell? ⟨w.heap.size, 8, none⟩ = some (str [109, 117]) ∧ wr.cell? ⟨w.heap.size, 9, none⟩ = some (str [116, 109, 117]) := by
  have hb := (h.block w.heap.size (by omega)).trans (heap_alloc_new w _)
  refine ⟨by have := h.size; simp at this; omega, block_cells hb 0 _ rfl, block_cells hb 1 _ rfl, block_cells hb 2 _ rfl, block_cells hb 3 _ rfl, block_cells hb 4 _ rfl, block_cells hb 5 _ rfl, block_cells hb 6 _ rfl, block_cells hb 7 _ rfl, block_cells hb 8 _ rfl, block_cells hb 9 _ rfl⟩
theorem words_below {w wr : World} (h : Below (w.heap.size + 1) (w.alloc wordsO) wr) : Below w.heap.size w wr :=
  below_step ((Below.refl _ _).alloc (Nat.le_refl _) _ : Below w.heap.size w (w.alloc wordsO)) (by simp) (by simpa using h)

set_option maxRecDepth 100000 in
set_option maxHeartbeats 8000000 in
theorem word_0 (w : World) : Calls Try.prog 25 #[str [112, 97, 105, 114]] w fun e w' => e = .returned (str [99, 97, 115, 101]) ∧ Below w.heap.size w w' := by
  go_enter Try.func25, Try.ntmps25
  go_wp2_with fail
  have hb0 : Below (w.heap.size + 1) (w.alloc wordsO) (w.alloc wordsO) := Below.refl _ _
  go_loopw [4] (fun i wr => ∃ k : Nat, k ≤ 0 ∧ i = .int .i64 k ∧ Below (w.heap.size + 1) (w.alloc wordsO) wr) (fun i _ => 0 - (intOf i).toNat)
  case atStart => exact ⟨0, Nat.zero_le _, rfl, hb0⟩
  case round =>
    obtain ⟨k, hk, rfl, hbel⟩ := hrel
    obtain ⟨z, c0, c1, c2, c3, c4, c5, c6, c7, c8, c9⟩ := words_cells hbel
    have hk' : k = 0 := by omega
    have hbel' := Lib.hid hbel
    clear hbel hb0
    rcases hk' with rfl
    all_goals first
      | (go_wp2_with fail
         go_ret
         exact ⟨rfl, words_below hbel'.out⟩)
      | (go_wp2_with fail
         go_roundw
         case rel => exact ⟨_, by decide, rfl, hbel'.out⟩
         case measure => decide)

set_option maxRecDepth 100000 in
set_option maxHeartbeats 8000000 in
theorem word_1 (w : World) : Calls Try.prog 25 #[str [99, 97, 115, 101]] w fun e w' => e = .returned (str [112, 97, 105, 114]) ∧ Below w.heap.size w w' := by
  go_enter Try.func25, Try.ntmps25
  go_wp2_with fail
  have hb0 : Below (w.heap.size + 1) (w.alloc wordsO) (w.alloc wordsO) := Below.refl _ _
  go_loopw [4] (fun i wr => ∃ k : Nat, k ≤ 1 ∧ i = .int .i64 k ∧ Below (w.heap.size + 1) (w.alloc wordsO) wr) (fun i _ => 1 - (intOf i).toNat)
  case atStart => exact ⟨0, Nat.zero_le _, rfl, hb0⟩
  case round =>
    obtain ⟨k, hk, rfl, hbel⟩ := hrel
    obtain ⟨z, c0, c1, c2, c3, c4, c5, c6, c7, c8, c9⟩ := words_cells hbel
    have hk' : k = 0 ∨ k = 1 := by omega
    have hbel' := Lib.hid hbel
    clear hbel hb0
    rcases hk' with rfl | rfl
    all_goals first
      | (go_wp2_with fail
         go_ret
         exact ⟨rfl, words_below hbel'.out⟩)
      | (go_wp2_with fail
         go_roundw
         case rel => exact ⟨_, by decide, rfl, hbel'.out⟩
         case measure => decide)

set_option maxRecDepth 100000 in
set_option maxHeartbeats 8000000 in
theorem word_2 (w : World) : Calls Try.prog 25 #[str [105, 110, 108]] w fun e w' => e = .returned (str [102, 115, 116]) ∧ Below w.heap.size w w' := by
  go_enter Try.func25, Try.ntmps25
  go_wp2_with fail
  have hb0 : Below (w.heap.size + 1) (w.alloc wordsO) (w.alloc wordsO) := Below.refl _ _
  go_loopw [4] (fun i wr => ∃ k : Nat, k ≤ 2 ∧ i = .int .i64 k ∧ Below (w.heap.size + 1) (w.alloc wordsO) wr) (fun i _ => 2 - (intOf i).toNat)
  case atStart => exact ⟨0, Nat.zero_le _, rfl, hb0⟩
  case round =>
    obtain ⟨k, hk, rfl, hbel⟩ := hrel
    obtain ⟨z, c0, c1, c2, c3, c4, c5, c6, c7, c8, c9⟩ := words_cells hbel
    have hk' : k = 0 ∨ k = 1 ∨ k = 2 := by omega
    have hbel' := Lib.hid hbel
    clear hbel hb0
    rcases hk' with rfl | rfl | rfl
    all_goals first
      | (go_wp2_with fail
         go_ret
         exact ⟨rfl, words_below hbel'.out⟩)
      | (go_wp2_with fail
         go_roundw
         case rel => exact ⟨_, by decide, rfl, hbel'.out⟩
         case measure => decide)

set_option maxRecDepth 100000 in
set_option maxHeartbeats 8000000 in
theorem word_3 (w : World) : Calls Try.prog 25 #[str [102, 115, 116]] w fun e w' => e = .returned (str [105, 110, 108]) ∧ Below w.heap.size w w' := by
  go_enter Try.func25, Try.ntmps25
  go_wp2_with fail
  have hb0 : Below (w.heap.size + 1) (w.alloc wordsO) (w.alloc wordsO) := Below.refl _ _
  go_loopw [4] (fun i wr => ∃ k : Nat, k ≤ 3 ∧ i = .int .i64 k ∧ Below (w.heap.size + 1) (w.alloc wordsO) wr) (fun i _ => 3 - (intOf i).toNat)
  case atStart => exact ⟨0, Nat.zero_le _, rfl, hb0⟩
  case round =>
    obtain ⟨k, hk, rfl, hbel⟩ := hrel
    obtain ⟨z, c0, c1, c2, c3, c4, c5, c6, c7, c8, c9⟩ := words_cells hbel
    have hk' : k = 0 ∨ k = 1 ∨ k = 2 ∨ k = 3 := by omega
    have hbel' := Lib.hid hbel
    clear hbel hb0
    rcases hk' with rfl | rfl | rfl | rfl
    all_goals first
      | (go_wp2_with fail
         go_ret
         exact ⟨rfl, words_below hbel'.out⟩)
      | (go_wp2_with fail
         go_roundw
         case rel => exact ⟨_, by decide, rfl, hbel'.out⟩
         case measure => decide)

set_option maxRecDepth 100000 in
set_option maxHeartbeats 8000000 in
theorem word_4 (w : World) : Calls Try.prog 25 #[str [105, 110, 114]] w fun e w' => e = .returned (str [115, 110, 100]) ∧ Below w.heap.size w w' := by
  go_enter Try.func25, Try.ntmps25
  go_wp2_with fail
  have hb0 : Below (w.heap.size + 1) (w.alloc wordsO) (w.alloc wordsO) := Below.refl _ _
  go_loopw [4] (fun i wr => ∃ k : Nat, k ≤ 4 ∧ i = .int .i64 k ∧ Below (w.heap.size + 1) (w.alloc wordsO) wr) (fun i _ => 4 - (intOf i).toNat)
  case atStart => exact ⟨0, Nat.zero_le _, rfl, hb0⟩
  case round =>
    obtain ⟨k, hk, rfl, hbel⟩ := hrel
    obtain ⟨z, c0, c1, c2, c3, c4, c5, c6, c7, c8, c9⟩ := words_cells hbel
    have hk' : k = 0 ∨ k = 1 ∨ k = 2 ∨ k = 3 ∨ k = 4 := by omega
    have hbel' := Lib.hid hbel
    clear hbel hb0
    rcases hk' with rfl | rfl | rfl | rfl | rfl
    all_goals first
      | (go_wp2_with fail
         go_ret
         exact ⟨rfl, words_below hbel'.out⟩)
      | (go_wp2_with fail
         go_roundw
         case rel => exact ⟨_, by decide, rfl, hbel'.out⟩
         case measure => decide)

set_option maxRecDepth 100000 in
set_option maxHeartbeats 8000000 in
theorem word_5 (w : World) : Calls Try.prog 25 #[str [115, 110, 100]] w fun e w' => e = .returned (str [105, 110, 114]) ∧ Below w.heap.size w w' := by
  go_enter Try.func25, Try.ntmps25
  go_wp2_with fail
  have hb0 : Below (w.heap.size + 1) (w.alloc wordsO) (w.alloc wordsO) := Below.refl _ _
  go_loopw [4] (fun i wr => ∃ k : Nat, k ≤ 5 ∧ i = .int .i64 k ∧ Below (w.heap.size + 1) (w.alloc wordsO) wr) (fun i _ => 5 - (intOf i).toNat)
  case atStart => exact ⟨0, Nat.zero_le _, rfl, hb0⟩
  case round =>
    obtain ⟨k, hk, rfl, hbel⟩ := hrel
    obtain ⟨z, c0, c1, c2, c3, c4, c5, c6, c7, c8, c9⟩ := words_cells hbel
    have hk' : k = 0 ∨ k = 1 ∨ k = 2 ∨ k = 3 ∨ k = 4 ∨ k = 5 := by omega
    have hbel' := Lib.hid hbel
    clear hbel hb0
    rcases hk' with rfl | rfl | rfl | rfl | rfl | rfl
    all_goals first
      | (go_wp2_with fail
         go_ret
         exact ⟨rfl, words_below hbel'.out⟩)
      | (go_wp2_with fail
         go_roundw
         case rel => exact ⟨_, by decide, rfl, hbel'.out⟩
         case measure => decide)

set_option maxRecDepth 100000 in
set_option maxHeartbeats 8000000 in
theorem word_6 (w : World) : Calls Try.prog 25 #[str [110, 111, 116]] w fun e w' => e = .returned (str [110, 101, 103]) ∧ Below w.heap.size w w' := by
  go_enter Try.func25, Try.ntmps25
  go_wp2_with fail
  have hb0 : Below (w.heap.size + 1) (w.alloc wordsO) (w.alloc wordsO) := Below.refl _ _
  go_loopw [4] (fun i wr => ∃ k : Nat, k ≤ 6 ∧ i = .int .i64 k ∧ Below (w.heap.size + 1) (w.alloc wordsO) wr) (fun i _ => 6 - (intOf i).toNat)
  case atStart => exact ⟨0, Nat.zero_le _, rfl, hb0⟩
  case round =>
    obtain ⟨k, hk, rfl, hbel⟩ := hrel
    obtain ⟨z, c0, c1, c2, c3, c4, c5, c6, c7, c8, c9⟩ := words_cells hbel
    have hk' : k = 0 ∨ k = 1 ∨ k = 2 ∨ k = 3 ∨ k = 4 ∨ k = 5 ∨ k = 6 := by omega
    have hbel' := Lib.hid hbel
    clear hbel hb0
    rcases hk' with rfl | rfl | rfl | rfl | rfl | rfl | rfl
    all_goals first
      | (go_wp2_with fail
         go_ret
         exact ⟨rfl, words_below hbel'.out⟩)
      | (go_wp2_with fail
         go_roundw
         case rel => exact ⟨_, by decide, rfl, hbel'.out⟩
         case measure => decide)

set_option maxRecDepth 100000 in
set_option maxHeartbeats 8000000 in
theorem word_7 (w : World) : Calls Try.prog 25 #[str [110, 101, 103]] w fun e w' => e = .returned (str [110, 111, 116]) ∧ Below w.heap.size w w' := by
  go_enter Try.func25, Try.ntmps25
  go_wp2_with fail
  have hb0 : Below (w.heap.size + 1) (w.alloc wordsO) (w.alloc wordsO) := Below.refl _ _
  go_loopw [4] (fun i wr => ∃ k : Nat, k ≤ 7 ∧ i = .int .i64 k ∧ Below (w.heap.size + 1) (w.alloc wordsO) wr) (fun i _ => 7 - (intOf i).toNat)
  case atStart => exact ⟨0, Nat.zero_le _, rfl, hb0⟩
  case round =>
    obtain ⟨k, hk, rfl, hbel⟩ := hrel
    obtain ⟨z, c0, c1, c2, c3, c4, c5, c6, c7, c8, c9⟩ := words_cells hbel
    have hk' : k = 0 ∨ k = 1 ∨ k = 2 ∨ k = 3 ∨ k = 4 ∨ k = 5 ∨ k = 6 ∨ k = 7 := by omega
    have hbel' := Lib.hid hbel
    clear hbel hb0
    rcases hk' with rfl | rfl | rfl | rfl | rfl | rfl | rfl | rfl
    all_goals first
      | (go_wp2_with fail
         go_ret
         exact ⟨rfl, words_below hbel'.out⟩)
      | (go_wp2_with fail
         go_roundw
         case rel => exact ⟨_, by decide, rfl, hbel'.out⟩
         case measure => decide)

set_option maxRecDepth 100000 in
set_option maxHeartbeats 8000000 in
theorem word_8 (w : World) : Calls Try.prog 25 #[str [109, 117]] w fun e w' => e = .returned (str [116, 109, 117]) ∧ Below w.heap.size w w' := by
  go_enter Try.func25, Try.ntmps25
  go_wp2_with fail
  have hb0 : Below (w.heap.size + 1) (w.alloc wordsO) (w.alloc wordsO) := Below.refl _ _
  go_loopw [4] (fun i wr => ∃ k : Nat, k ≤ 8 ∧ i = .int .i64 k ∧ Below (w.heap.size + 1) (w.alloc wordsO) wr) (fun i _ => 8 - (intOf i).toNat)
  case atStart => exact ⟨0, Nat.zero_le _, rfl, hb0⟩
  case round =>
    obtain ⟨k, hk, rfl, hbel⟩ := hrel
    obtain ⟨z, c0, c1, c2, c3, c4, c5, c6, c7, c8, c9⟩ := words_cells hbel
    have hk' : k = 0 ∨ k = 1 ∨ k = 2 ∨ k = 3 ∨ k = 4 ∨ k = 5 ∨ k = 6 ∨ k = 7 ∨ k = 8 := by omega
    have hbel' := Lib.hid hbel
    clear hbel hb0
    rcases hk' with rfl | rfl | rfl | rfl | rfl | rfl | rfl | rfl | rfl
    all_goals first
      | (go_wp2_with fail
         go_ret
         exact ⟨rfl, words_below hbel'.out⟩)
      | (go_wp2_with fail
         go_roundw
         case rel => exact ⟨_, by decide, rfl, hbel'.out⟩
         case measure => decide)

set_option maxRecDepth 100000 in
set_option maxHeartbeats 8000000 in
theorem word_9 (w : World) : Calls Try.prog 25 #[str [116, 109, 117]] w fun e w' => e = .returned (str [109, 117]) ∧ Below w.heap.size w w' := by
  go_enter Try.func25, Try.ntmps25
  go_wp2_with fail
  have hb0 : Below (w.heap.size + 1) (w.alloc wordsO) (w.alloc wordsO) := Below.refl _ _
  go_loopw [4] (fun i wr => ∃ k : Nat, k ≤ 9 ∧ i = .int .i64 k ∧ Below (w.heap.size + 1) (w.alloc wordsO) wr) (fun i _ => 9 - (intOf i).toNat)
  case atStart => exact ⟨0, Nat.zero_le _, rfl, hb0⟩
  case round =>
    obtain ⟨k, hk, rfl, hbel⟩ := hrel
    obtain ⟨z, c0, c1, c2, c3, c4, c5, c6, c7, c8, c9⟩ := words_cells hbel
    have hk' : k = 0 ∨ k = 1 ∨ k = 2 ∨ k = 3 ∨ k = 4 ∨ k = 5 ∨ k = 6 ∨ k = 7 ∨ k = 8 ∨ k = 9 := by omega
    have hbel' := Lib.hid hbel
    clear hbel hb0
    rcases hk' with rfl | rfl | rfl | rfl | rfl | rfl | rfl | rfl | rfl | rfl
    all_goals first
      | (go_wp2_with fail
         go_ret
         exact ⟨rfl, words_below hbel'.out⟩)
      | (go_wp2_with fail
         go_roundw
         case rel => exact ⟨_, by decide, rfl, hbel'.out⟩
         case measure => decide)

theorem word_any (h : Bs) (hh : hd1 h ≠ none ∨ (hd2 h ≠ none ∧ h ≠ cutB) ∨ isMu h = true) (w : World) : Calls Try.prog 25 #[str h] w fun e w' => e = .returned (str (dword h)) ∧ Below w.heap.size w w' := by
  have hc : h = [112, 97, 105, 114] ∨ h = [99, 97, 115, 101] ∨ h = [105, 110, 108] ∨ h = [102, 115, 116] ∨ h = [105, 110, 114] ∨ h = [115, 110, 100] ∨ h = [110, 111, 116] ∨ h = [110, 101, 103] ∨ h = [109, 117] ∨ h = [116, 109, 117] := by
    rcases hh with hh | ⟨hh, hc⟩ | hh
    · unfold hd1 at hh
      repeat' split at hh
      all_goals first | (rename_i e; subst e; simp; done) | exact absurd rfl hh
    · unfold hd2 at hh
      repeat' split at hh
      all_goals first | exact absurd (by assumption) hc | (rename_i e; subst e; simp; done) | exact absurd rfl hh
    · simp only [isMu, muB, tmuB, Bool.or_eq_true, beq_iff_eq] at hh
      rcases hh with rfl | rfl <;> simp
  rcases hc with rfl | rfl | rfl | rfl | rfl | rfl | rfl | rfl | rfl | rfl
  · exact word_0 w
  · exact word_1 w
  · exact word_2 w
  · exact word_3 w
  · exact word_4 w
  · exact word_5 w
  · exact word_6 w
  · exact word_7 w
  · exact word_8 w
  · exact word_9 w

end Go.Proofs.Ytaihmfmfaejhiaa
