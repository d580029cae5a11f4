/- The letters whose bits are 1: impl.chooseLetters. -/
import Derived.Test.YtbglimlhffbddaaSeqFn
import Derived.Laws.BitsLemmas
namespace Go.Proofs.Ytbglimlhffbddaa
set_option linter.unusedVariables false
open Go.RowKit

/-- The texts whose bits are 1, the first for bit i. -/
def pick (bits : Nat) : Nat → List ByteArray → List ByteArray
  | _, [] => []
  | i, s :: r => if bits.testBit i then s :: pick bits (i + 1) r else pick bits (i + 1) r

theorem pick_snoc (bits : Nat) (s : ByteArray) : ∀ (xs : List ByteArray) (i : Nat), pick bits i (xs ++ [s]) = if bits.testBit (i + xs.length) then pick bits i xs ++ [s] else pick bits i xs
  | [], i => by simp [pick]
  | x :: xs, i => by
    rw [List.cons_append, pick, pick, pick_snoc bits s xs (i + 1), show i + 1 + xs.length = i + (x :: xs).length by simp; omega]
    split <;> split <;> simp

theorem pick_length (bits : Nat) : ∀ (xs : List ByteArray) (i : Nat), (pick bits i xs).length ≤ xs.length
  | [], i => by simp [pick]
  | x :: xs, i => by have := pick_length bits xs (i + 1); rw [pick]; split <;> simp <;> omega

theorem pick_mem (bits : Nat) {s : ByteArray} : ∀ {xs : List ByteArray} {i : Nat}, s ∈ pick bits i xs → s ∈ xs
  | [], i, h => by simp [pick] at h
  | x :: xs, i, h => by
    rw [pick] at h
    split at h
    · rcases List.mem_cons.1 h with rfl | h
      · simp
      · exact List.mem_cons_of_mem _ (pick_mem bits h)
    · exact List.mem_cons_of_mem _ (pick_mem bits h)

theorem pick_step {L : List ByteArray} {j : Nat} (bits : Nat) (h : j < L.length) : pick bits 0 (L.take (j + 1)) = if bits.testBit j then pick bits 0 (L.take j) ++ [L[j]] else pick bits 0 (L.take j) := by
  rw [List.take_succ_eq_append_getElem h, pick_snoc]
  simp [List.length_take, Nat.min_eq_left (Nat.le_of_lt h)]

theorem and1 (n : Int) : Go.bits .and .i64 n 1 = n % 2 := by
  have h1 : (BitVec.ofInt 64 1).toNat = 2 ^ 1 - 1 := by decide
  have key : (BitVec.ofInt 64 n &&& BitVec.ofInt 64 1).toNat = (n % ((2 ^ 64 : Nat) : Int)).toNat % 2 ^ 1 := by
    rw [BitVec.toNat_and, BitVec.toNat_ofInt, h1, Nat.and_two_pow_sub_one_eq_mod]
  show IntKind.i64.wrap ((BitVec.ofInt 64 n &&& BitVec.ofInt 64 1).toNat : Nat) = n % 2
  rw [key, IntKind.wrap_i64]
  omega

theorem bit_is (b j : Nat) : (Go.bits .and .i64 ((b : Int) / 2 ^ j) 1 == 1) = b.testBit j := by
  rw [and1, show ((b : Int) / 2 ^ j) % 2 = ((b / 2 ^ j % 2 : Nat) : Int) by simp, Nat.testBit_eq_decide_div_mod_eq, Bool.eq_iff_iff]
  simp only [beq_iff_eq, decide_eq_true_eq]
  omega

theorem choose_any (A : Option Addr) (n c : Nat) (L : List ByteArray) (bits : Nat) (w : World) (hr : RowS w A n L) (hn : n ≤ 10) (hb : bits < 1024) :
    Calls Try.prog 25 #[.slice A n c, .int .i64 bits] w fun e w' => ∃ B d, e = .returned (.slice B (pick bits 0 L).length d) ∧ w'.ownsRow w.heap.size 9 1 (.slice B (pick bits 0 L).length d) (pick bits 0 L).length ((pick bits 0 L).map Value.string) ∧ Below w.heap.size w w' := by
  obtain ⟨i0, hi0, hz0, hz1, hz2⟩ := info_parts infoStr
  have hr' := Lib.hid hr
  have hl := Lib.hid hr.1
  clear hr
  go_enter Try.func25, Try.ntmps25
  go_wp2_with fail
  go_loopw [5, 10] (fun v i wr => ∃ (j : Nat) (P : List ByteArray) (B : Option Addr) (d : Nat), j ≤ n ∧ i = .int .i64 j ∧ v = .slice B P.length d ∧ P = pick bits 0 (L.take j) ∧ P.length ≤ j ∧
      wr.ownsRow w.heap.size 9 1 (.slice B P.length d) P.length (P.map Value.string) ∧ Below w.heap.size w wr)
    (fun _ i _ => n - (intOf i).toNat)
  case atStart => exact ⟨0, [], none, 0, Nat.zero_le _, rfl, rfl, rfl, Nat.le_refl _, World.ownsRow_nil _ _ _ _, Below.refl _ _⟩
  case round =>
    obtain ⟨j, P, B, d, hj, rfl, rfl, hP, hlen, own1, hb1⟩ := hrel
    by_cases hlt : j < n
    · obtain ⟨b, o, rfl, hblt, hc⟩ := hr'.out.2 (by omega)
      have l1 : j < L.length := by have := hl.out; omega
      have x1 := (hb1.cell (p := ⟨b, o + j, none⟩) hblt).trans (hc j L[j] (List.getElem?_eq_getElem l1))
      have hstep := pick_step bits l1
      rw [← hP] at hstep
      generalize L[j] = t at x1 hstep
      have i1 : (j : Int) < (n : Int) := by omega
      have i0' : (0 : Int) ≤ (j : Int) := by omega
      have own1' := Lib.hid own1
      have hb1' := Lib.hid hb1
      have hstep' := Lib.hid hstep
      clear hc own1 hb1 hP hstep
      have hbit := bit_is bits j
      cases hk : bits.testBit j with
      | false =>
        rw [hk] at hbit
        have hstep2 := Lib.hid hstep'.out
        rw [hk] at hstep2
        clear hk hstep'
        go_wp2_with fail
        go_roundw
        case rel => exact ⟨j + 1, P, B, d, by omega, by go_num, rfl, hstep2.out.symm, by omega, own1'.out, hb1'.out⟩
        case measure => simp [intOf]; omega
      | true =>
        rw [hk] at hbit
        have hstep2 := Lib.hid hstep'.out
        rw [hk] at hstep2
        clear hk hstep'
        go_wp2_with (at_builtin; go_loud (refine wpList_append_lies _ rfl (.tmp 20) (.tmp 22) 27 rfl w.heap.size 9 i0 _ 1 16 Try.underlying27 hi0 hz0 hz1 hz2 rfl (by decide) _ _ _ rfl (own1'.out.alloc _) ⟨wr.heap.size, 0, none⟩ 1 1 [.string t] rfl rfl ?c1 ?c2 (by decide) ?c3 ?c4 ?c5 _ rfl ?_))
        case c2 => rfl
        case c3 => unfold maxLen; omega
        case c4 => omega
        case c5 => have := hb1'.out.size; omega
        intro g cap w3 own3 gr3 hat hlt3
        have own3' := Lib.hid own3
        have hb3' : Hid (Below w.heap.size w w3) := Lib.hid ((bb_alloc hb1'.out _).grown gr3 (by have := hb1'.out.size; simp; omega) (fun k hk => (own1'.out.lt k hk).1))
        clear own3 gr3 hat
        go_wp2_with fail
        go_roundw
        case rel =>
          refine ⟨j + 1, P ++ [t], some ⟨g, 0, none⟩, cap, by omega, by go_num, by simp, hstep2.out.symm, by simp; omega, ?_, hb3'.out⟩
          have o := own3'.out
          simpa using o
        case measure => simp [intOf]; omega
    · have hfin : Hid (∃ B' d', (.returned (.slice B P.length d) : Ending) = .returned (.slice B' (pick bits 0 L).length d') ∧ wr.ownsRow w.heap.size 9 1 (.slice B' (pick bits 0 L).length d') (pick bits 0 L).length ((pick bits 0 L).map Value.string) ∧ Below w.heap.size w wr) := by
        rw [List.take_of_length_le (by have := hl.out; omega)] at hP
        subst hP
        exact ⟨B, d, rfl, own1, hb1⟩
      clear own1 hb1 hP
      go_wp2_with fail
      go_ret
      exact hfin.out

end Go.Proofs.Ytbglimlhffbddaa
