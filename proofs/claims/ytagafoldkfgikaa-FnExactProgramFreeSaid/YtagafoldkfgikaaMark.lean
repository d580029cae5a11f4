/- The laws' marks: markText, markStringS, heldStringS. -/
import Derived.Test.YtagafoldkfgikaaStrs
import Derived.Test.YtagafoldkfgikaaReadF
namespace Go.Proofs.Ytagafoldkfgikaa
set_option linter.unusedVariables false
open Go.RowKit

/-- The digits of k ahead of out; f: at least so many as k needs. -/
def mkL : Nat → Nat → Bs → Bs
  | 0, _, out => out
  | f + 1, k, out => if k = 0 then out else mkL f (k / 10) (UInt8.ofNat (48 + k % 10) :: out)
def mkText (k : Nat) : ByteArray := ⟨(109 :: mkL (k + 1) k []).toArray⟩

theorem conv1 (n : Int) (w : World) : (convert 69 9 (.slice (some ⟨w.heap.size, 0, none⟩) 1 1)).run Try.prog (w.alloc (.cells #[.int .u8 n] 5)) = .ok (.string ⟨#[UInt8.ofNat n.toNat]⟩) (w.alloc (.cells #[.int .u8 n] 5)) := by
  rw [run_convert_bytes_string _ _ _ 5 _ _ _ Try.underlying69 Try.underlying5 Try.underlying9]
  refine (run_bytesToString _ _ _ _ [n] ?_).trans rfl
  simp [go_sem, loadCells, loadCellsFrom]

theorem markText_any (k0 : Nat) (w : World) (hk1 : 1 ≤ k0) (hk2 : k0 ≤ 100000000) :
    Calls Try.prog 17 #[.int .i64 k0] w fun e w' => e = .returned (.string (mkText k0)) ∧ Below w.heap.size w w' := by
  have hcv := fun n w => conv1 n w
  go_enter Try.func17, Try.ntmps17
  go_wp2_with fail
  go_loopw [0, 3] (fun kv ov wr => ∃ (f k : Nat) (out : ByteArray), k < f ∧ k ≤ 100000000 ∧ kv = .int .i64 k ∧ ov = .string out ∧ out.size + f ≤ 100000001 ∧ mkL f k out.data.toList = mkL (k0 + 1) k0 [] ∧ Below w.heap.size w wr) (fun kv _ _ => (intOf kv).toNat)
  case atStart => exact ⟨k0 + 1, k0, _, by omega, hk2, rfl, rfl, by show 0 + _ ≤ _; omega, rfl, Below.refl _ _⟩
  case round =>
    obtain ⟨f, k, out, hf, hk, rfl, rfl, hsz, hmk, hbel⟩ := hrel
    have hmk' := Lib.hid hmk
    have hbel' := Lib.hid hbel
    clear hmk
    by_cases h0 : 0 < k
    · have u8 : IntKind.u8.wrap (48 + (k : Int) % 10) = 48 + (k : Int) % 10 := by
        unfold IntKind.wrap; simp [IntKind.bits, IntKind.signed]; omega
      go_wp2_with fail
      obtain ⟨f', rfl⟩ : ∃ f', f = f' + 1 := ⟨f - 1, by omega⟩
      go_roundw
      case rel =>
        refine ⟨f', k / 10, _, by omega, by omega, by go_num, rfl, ?_, ?_, hbel'.out.alloc hbel'.out.size _⟩
        · rw [ByteArray.size_append]; show 1 + _ + _ ≤ _; omega
        · rw [← hmk'.out, mkL, if_neg (by omega), ByteArray.data_append, Array.toList_append]
          rw [UInt8.ofNat_add]
          rfl
      case measure => simp [intOf]; omega
    · have hfin : Hid ((⟨#[109]⟩ : ByteArray) ++ out = mkText k0) := by
        have h := hmk'.out
        rw [show k = 0 from by omega] at h
        obtain ⟨f', rfl⟩ : ∃ f', f = f' + 1 := ⟨f - 1, by omega⟩
        rw [mkL, if_pos rfl] at h
        unfold mkText
        rw [← h]
        exact ba_append [109] out.data.toList
      go_wp2_with fail
      go_ret
      exact ⟨by rw [← hfin.out]; rfl, hbel'.out⟩

/-- The marks from k on. -/
def marks (k : Nat) : Nat → List ByteArray
  | 0 => []
  | n + 1 => mkText k :: marks (k + 1) n
theorem marks_length (k n : Nat) : (marks k n).length = n := by
  induction n generalizing k with
  | zero => rfl
  | succ n ih => rw [marks, List.length_cons, ih]
theorem marks_get (k n i : Nat) (h : i < n) : (marks k n)[i]? = some (mkText (k + i)) := by
  induction n generalizing k i with
  | zero => omega
  | succ n ih =>
    rw [marks]
    cases i with
    | zero => rfl
    | succ i =>
      rw [List.getElem?_cons_succ, ih (k + 1) i (by omega)]
      congr 2
      omega

/-- The first j are marks, the rest is as it was. -/
def half (k j : Nat) (ss : List ByteArray) : List ByteArray := marks k j ++ ss.drop j
theorem half_zero (k : Nat) (ss : List ByteArray) : half k 0 ss = ss := rfl
theorem half_all {k n : Nat} {ss : List ByteArray} (h : ss.length = n) : half k n ss = marks k n := by
  unfold half; rw [List.drop_of_length_le (by omega), List.append_nil]
theorem marks_snoc (k n : Nat) : marks k (n + 1) = marks k n ++ [mkText (k + n)] := by
  induction n generalizing k with
  | zero => rfl
  | succ n ih =>
    rw [marks, ih (k + 1), marks]
    simp
    congr 1
    omega
theorem half_set {k j : Nat} {ss : List ByteArray} (h : j < ss.length) : (half k j ss).set j (mkText (k + j)) = half k (j + 1) ss := by
  unfold half
  have e : (marks k j).length = j := marks_length k j
  rw [List.set_append_right _ _ (by omega), e, Nat.sub_self, marks_snoc, List.drop_eq_getElem_cons h, List.set_cons_zero]
  simp

theorem markText_int (z : Int) (w : World) (h1 : 1 ≤ z) (h2 : z ≤ 100000000) :
    Calls Try.prog 17 #[.int .i64 z] w fun e w' => e = .returned (.string (mkText z.toNat)) ∧ Below w.heap.size w w' := by
  have h := markText_any z.toNat w (by omega) (by omega)
  rw [Int.toNat_of_nonneg (by omega)] at h
  exact h

theorem mark_any (A : Option Addr) (n c base k : Nat) (ss : List ByteArray) (w : World) (hown : w.ownsRow base 9 1 (.slice A n c) n (ss.map Value.string)) (hk1 : 1 ≤ k) (hk2 : k + n ≤ 100000000) :
    Calls Try.prog 8 #[.slice A n c, .int .i64 k] w fun e w' => e = .returned (.int .i64 ((k + n : Nat) : Int)) ∧ w'.ownsRow base 9 1 (.slice A n c) n ((marks k n).map Value.string) ∧ w.grownBy w' (Value.slice A n c).ownBlock := by
  have hlen : ss.length = n := by have := hown.1; simpa using this
  by_cases h0 : n = 0
  · subst h0
    have hfin : Hid (w.ownsRow base 9 1 (.slice A 0 c) 0 ((marks k 0).map Value.string)) := by
      have e : ss = [] := List.eq_nil_of_length_eq_zero hlen
      subst e
      exact hown
    clear hown hlen
    go_enter Try.func8, Try.ntmps8
    go_wp2_with fail
    go_loop [1, 5] (fun kv i => kv = .int .i64 k ∧ i = .int .i64 0) (fun _ _ => 0)
    case atStart => exact ⟨rfl, rfl⟩
    case round =>
      obtain ⟨rfl, rfl⟩ := hrel
      go_wp2_with fail
      go_ret
      exact ⟨rfl, hfin.out, grown_refl' _ _⟩
  · obtain ⟨g, cap, hv, hbg, hglt⟩ := hown.form (by omega)
    have hA : A = some ⟨g, 0, none⟩ := by injection hv
    subst hA
    have hown' := Lib.hid hown
    have hlen' := Lib.hid hlen
    clear hown hlen hv
    go_enter Try.func8, Try.ntmps8
    go_wp2_with fail
    go_loopw [1, 5] (fun kv i wr => ∃ j : Nat, j ≤ n ∧ kv = .int .i64 ((k + j : Nat) : Int) ∧ i = .int .i64 j ∧ wr.ownsRow base 9 1 (.slice (some ⟨g, 0, none⟩) n c) n ((half k j ss).map Value.string) ∧ w.grownBy wr (some g))
      (fun _ i _ => n - (intOf i).toNat)
    case atStart => exact ⟨0, Nat.zero_le _, rfl, rfl, hown'.out, grown_refl' _ _⟩
    case round =>
      obtain ⟨j, hj, rfl, rfl, hor, hgr⟩ := hrel
      have hor' := Lib.hid hor
      have hgr' := Lib.hid hgr
      clear hor hgr
      by_cases hlt : j < n
      · have i0 : (0 : Int) ≤ (j : Int) := by omega
        have i1 : (j : Int) < (n : Int) := by omega
        go_wp2_with fail
        refine (markText_int _ _ (by omega) (by omega)).mono ?_
        rintro e w1 ⟨rfl, hb1⟩
        have own1 := own_below hor'.out hb1
        have hl : j < (half k j ss).length := by unfold half; rw [List.length_append, marks_length, List.length_drop, hlen'.out]; omega
        have hcell : w1.cell? ⟨g, j, none⟩ = some (.string (half k j ss)[j]) := by
          rw [own1.cellAt j (by omega), List.getElem?_map, List.getElem?_eq_getElem hl]; rfl
        have hfz := own1.frozenAt j
        rw [show ((k : Int) + (j : Int)).toNat = k + j from by omega]
        have hst := own1.stored j (.string (mkText (k + j)))
        rw [List.map_set.symm, half_set (by rw [hlen'.out]; exact hlt)] at hst
        have hst' := Lib.hid hst
        have hb1' := Lib.hid hb1
        generalize mkText (k + j) = mk at hst' ⊢
        clear hst own1 hb1
        go_wp2_with fail
        go_roundw
        case rel => exact ⟨j + 1, by omega, by go_num, by go_num, hst'.out.1, grown_trans' hgr'.out (grown_trans' (below_grown hb1'.out _) hst'.out.2)⟩
        case measure => simp [intOf]; omega
      · have hjn : j = n := by omega
        have hfin : Hid (wr.ownsRow base 9 1 (.slice (some ⟨g, 0, none⟩) n c) n ((marks k n).map Value.string)) := by
          have h := hor'.out
          rw [hjn, half_all hlen'.out] at h
          exact h
        have hjn' := Lib.hid hjn
        clear hjn
        go_wp2_with fail
        go_ret
        exact ⟨by rw [hjn'.out]; go_num, hfin.out, hgr'.out⟩

theorem held_any (A : Option Addr) (n c k : Nat) (w : World) (hr : RowS w A n (marks k n)) (hk1 : 1 ≤ k) (hk2 : k + n ≤ 100000000) :
    Calls Try.prog 9 #[.slice A n c, .int .i64 k] w fun e w' => e = .returned (.int .i64 ((k + n : Nat) : Int)) ∧ Below w.heap.size w w' := by
  by_cases h0 : n = 0
  · subst h0
    clear hr
    go_enter Try.func9, Try.ntmps9
    go_wp2_with fail
    go_loop [1, 5] (fun kv i => kv = .int .i64 k ∧ i = .int .i64 0) (fun _ _ => 0)
    case atStart => exact ⟨rfl, rfl⟩
    case round =>
      obtain ⟨rfl, rfl⟩ := hrel
      go_wp2_with fail
      go_ret
      exact ⟨rfl, Below.refl _ _⟩
  · obtain ⟨b, o, rfl, hblt, hc⟩ := hr.2 (by omega)
    have hc' := Lib.hid hc
    clear hr hc
    go_enter Try.func9, Try.ntmps9
    go_wp2_with fail
    go_loopw [1, 5] (fun kv i wr => ∃ j : Nat, j ≤ n ∧ kv = .int .i64 ((k + j : Nat) : Int) ∧ i = .int .i64 j ∧ Below w.heap.size w wr) (fun _ i _ => n - (intOf i).toNat)
    case atStart => exact ⟨0, Nat.zero_le _, rfl, rfl, Below.refl _ _⟩
    case round =>
      obtain ⟨j, hj, rfl, rfl, hbel⟩ := hrel
      have hbel' := Lib.hid hbel
      by_cases hlt : j < n
      · have i0 : (0 : Int) ≤ (j : Int) := by omega
        have i1 : (j : Int) < (n : Int) := by omega
        have hS : Hid (∀ W', Below w.heap.size w W' → W'.cell? ⟨b, o + j, none⟩ = some (.string (mkText (k + j)))) := fun W' h =>
          (h.cell (p := ⟨b, o + j, none⟩) hblt).trans (hc'.out j _ (marks_get k n j hlt))
        have hM : Hid (∀ W, Calls Try.prog 17 #[.int .i64 ((k : Int) + (j : Int))] W fun e w' => e = .returned (.string (mkText (k + j))) ∧ Below W.heap.size W w') := fun W => by
          have h := markText_int ((k : Int) + (j : Int)) W (by omega) (by omega)
          rw [show ((k : Int) + (j : Int)).toNat = k + j from by omega] at h
          exact h
        generalize mkText (k + j) = mk at hS hM
        have hnb := strNe mk mk true (by simp)
        clear hbel
        go_wp2_with fail
        go_region_held3 (fun W' => W'.cell? ⟨b, o + j, none⟩ = some (.string mk))
          (first | exact hS.out _ hbel'.out.drew | exact hS.out _ (below_step hbel'.out.drew (Nat.le_refl _) hb1))
          (first | (go_at_call 17; refine Calls.mono (hM.out _) ?_; rintro e w1 ⟨rfl, hb1⟩))
        go_wp2_with fail
        go_roundw
        case rel => exact ⟨j + 1, by omega, by go_num, by go_num, below_step hbel'.out.drew (Nat.le_refl _) hb1⟩
        case measure => simp [intOf]; omega
      · have hjn : j = n := by omega
        have hjn' := Lib.hid hjn
        clear hjn hbel
        go_wp2_with fail
        go_ret
        exact ⟨by rw [hjn'.out]; go_num, hbel'.out⟩

end Go.Proofs.Ytagafoldkfgikaa
