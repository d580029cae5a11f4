/- spec.l6Dec, spec.l2Fresh. -/
import Derived.Test.YtaagbnbekfogiaaGreatDoorRowB
import Derived.Test.YtaagbnbekfogiaaGreatDoorMathC
import Derived.Deep.RegionWith
import Derived.Deep.RegionHeld3
namespace Go.Proofs.YtaagbnbekfogiaaGreatDoor
set_option linter.unusedVariables false
open Go.RowKit
set_option maxRecDepth 100000

theorem conv1d (n : Int) (w : World) : (convert 126 9 (.slice (some ⟨w.heap.size, 0, none⟩) 1 1)).run Tryz.prog (w.alloc (.cells #[.int .u8 n] 5)) = .ok (.string ⟨#[UInt8.ofNat n.toNat]⟩) (w.alloc (.cells #[.int .u8 n] 5)) := by
  rw [run_convert_bytes_string _ _ _ 5 _ _ _ Tryz.underlying126 Tryz.underlying5 Tryz.underlying9]
  refine (run_bytesToString _ _ _ _ [n] ?_).trans rfl
  simp [go_sem, loadCells, loadCellsFrom]

theorem conv1c (n : Int) (b : Nat) (w : World) (h : w.cell? ⟨b, 0, none⟩ = some (.int .u8 n)) : (convert 126 9 (.slice (some ⟨b, 0, none⟩) 1 1)).run Tryz.prog w = .ok (.string ⟨#[UInt8.ofNat n.toNat]⟩) w := by
  rw [run_convert_bytes_string _ _ _ 5 _ _ _ Tryz.underlying126 Tryz.underlying5 Tryz.underlying9]
  refine (run_bytesToString _ _ _ _ [n] ?_).trans rfl
  simp [go_sem, loadCells, loadCellsFrom, h]

set_option maxHeartbeats 1000000 in
theorem l6dec_any : ∀ (k : Nat), k ≤ 100000000 → ∀ w : World, Calls Tryz.prog 78 #[.int .i64 k] w fun e w' => e = .returned (.string ⟨(dec k).toArray⟩) ∧ Below w.heap.size w w' := by
  intro k
  induction k using Nat.strongRecOn with
  | _ k ih =>
    intro hk w
    have hcv := fun n w => conv1d n w
    have n1 : ¬ (k : Int) < -9223372036854775807 := by omega
    have n2 : ¬ (k : Int) < 0 := by omega
    by_cases h : k < 10
    · have n3 : (k : Int) < 10 := by omega
      have u8 : IntKind.u8.wrap (48 + (k : Int)) = 48 + (k : Int) := by
        unfold IntKind.wrap; simp [IntKind.bits, IntKind.signed]; omega
      have hfin : Hid (dec k = [48 + UInt8.ofNat k]) := by
        show dec k = _
        rw [dec_one h, UInt8.ofNat_add]; rfl
      clear ih
      go_enter Tryz.func78, Tryz.ntmps78
      go_wp2_with fail
      go_ret
      exact ⟨by rw [hfin.out]; rfl, (by repeat (with_reducible first | exact hbel | exact Below.refl _ _ | refine Below.drew ?_ | refine Below.drewN ?_ _ | refine Below.alloc ?_ (by first | (simp; done) | (simp; omega) | omega | (have := Below.size hbel; simp; omega) | (have := Below.size hbel; omega)) _ | refine Below.setCell ?_ (by first | (simp; done) | (simp; omega) | omega) _))⟩
    · have n3 : ¬ (k : Int) < 10 := by omega
      have u8 : IntKind.u8.wrap (48 + (k : Int) % 10) = 48 + (k : Int) % 10 := by
        unfold IntKind.wrap; simp [IntKind.bits, IntKind.signed]; omega
      have tm : (k : Int).tmod 10 = (k : Int) % 10 := Int.tmod_eq_emod_of_nonneg (by omega)
      have w0 : IntKind.i64.wrap ((k : Int) / 10) = (k : Int) / 10 := by exact IntWalk.i64_in _ (by omega)
      have w1 : IntKind.i64.wrap ((k : Int) % 10) = (k : Int) % 10 := by exact IntWalk.i64_in _ (by omega)
      have w2 : IntKind.i64.wrap (48 + (k : Int) % 10) = 48 + (k : Int) % 10 := by exact IntWalk.i64_in _ (by omega)
      have hq : Hid (∀ W, Calls Tryz.prog 78 #[.int .i64 ((k : Int) / 10)] W fun e w' => e = .returned (.string ⟨(dec (k / 10)).toArray⟩) ∧ Below W.heap.size W w') := fun W => by
        have h1 := ih (k / 10) (by omega) (by omega) W
        rw [Int.natCast_ediv] at h1
        exact h1
      have hl := dec_len 8 (k / 10) (by omega)
      have hfin : Hid ((⟨(dec (k / 10)).toArray⟩ ++ ⟨#[48 + UInt8.ofNat (k % 10)]⟩ : ByteArray) = ⟨(dec k).toArray⟩) := by
        show _ = _
        rw [dec_more h, ← ba_append, UInt8.ofNat_add]; rfl
      have hsz : (⟨(dec (k / 10)).toArray⟩ : ByteArray).size ≤ 9 := hl
      generalize (⟨(dec (k / 10)).toArray⟩ : ByteArray) = u at *
      have hut : UInt8.ofNat (48 + (k : Int) % 10).toNat = 48 + UInt8.ofNat (k % 10) := by
        rw [show (48 + (k : Int) % 10).toNat = 48 + k % 10 from by omega, UInt8.ofNat_add]; rfl
      have hcs : w.heap.size < (w.alloc (.cells #[.int .u8 (48 + (k : Int) % 10)] 5)).heap.size := by simp
      have hcc : (w.alloc (.cells #[.int .u8 (48 + (k : Int) % 10)] 5)).cell? ⟨w.heap.size, 0, none⟩ = some (.int .u8 (48 + (k : Int) % 10)) := block_cells (heap_alloc_new w _) 0 _ rfl
      have hcd := conv1c (48 + (k : Int) % 10) w.heap.size (w.alloc (.cells #[.int .u8 (48 + (k : Int) % 10)] 5)).drew hcc
      clear ih hl
      go_enter Tryz.func78, Tryz.ntmps78
      go_wp2_with fail
      go_region_with (first | (go_at_call 78; refine Calls.mono (hq.out _) ?_; rintro e w1 ⟨rfl, hb1⟩; try (have hcw := conv1c (48 + (k : Int) % 10) w.heap.size w1 ((hb1.cell (p := ⟨w.heap.size, 0, none⟩) hcs).trans hcc)))) 
      all_goals
        go_wp2_with fail
        go_ret
        refine ⟨by rw [← hfin.out]; first | rfl | simp, (by repeat (with_reducible first | exact Below.refl _ _ | exact hbb | refine Below.drew ?_ | refine bb_alloc ?_ _ | refine below_step ?_ (Nat.le_refl _) hb1 | refine below_step ?_ (Nat.le_refl _) hb2 | refine below_step ?_ (Nat.le_refl _) hb3 | refine below_step ?_ (Nat.le_refl _) hb4))⟩

/-- The model's namer in block r. -/
structure NM (w : World) (r : Nat) (A : Option Addr) (nf cf : Nat) (free : List Bs) (st : St) : Prop where
  box : w.heap[r]? = some (.cells #[.slice A nf cf, .int .i64 st.x, .int .i64 st.k] 71 (0, 0))
  row : RowS w A nf (free.map bs')
  ne : 0 < nf → ∀ a, A = some a → a.block ≠ r

theorem NM.cells {w : World} {r : Nat} {A : Option Addr} {nf cf : Nat} {free : List Bs} {st : St} (h : NM w r A nf cf free st) :
    r < w.heap.size ∧ w.cell? ⟨r, 0, none⟩ = some (.slice A nf cf) ∧ w.cell? ⟨r, 1, none⟩ = some (.int .i64 st.x) ∧ w.cell? ⟨r, 2, none⟩ = some (.int .i64 st.k) ∧ (∀ i, w.frozen? ⟨r, i, none⟩ = false) := by
  have hb := h.box
  have hlt : r < w.heap.size := by
    rcases Nat.lt_or_ge r w.heap.size with h1 | h1
    · exact h1
    · rw [Array.getElem?_eq_none h1] at hb; cases hb
  refine ⟨hlt, ?_, ?_, ?_, fun i => ?_⟩
  all_goals first | (simp only [World.cell?, hb]; rfl) | (simp only [World.frozen?, hb]; rfl)
theorem NM.below {w w' : World} {r : Nat} {A : Option Addr} {nf cf : Nat} {free : List Bs} {st : St} (h : NM w r A nf cf free st) (hb : Below w.heap.size w w') : NM w' r A nf cf free st :=
  ⟨(hb.block r h.cells.1).trans h.box, h.row.below hb, h.ne⟩
theorem rowS_grown {w w' : World} {r : Nat} {A : Option Addr} {n : Nat} {ss : List ByteArray} (h : RowS w A n ss) (hg : w.grownBy w' (some r)) (hne : 0 < n → ∀ a, A = some a → a.block ≠ r) : RowS w' A n ss := by
  refine ⟨h.1, fun hn => ?_⟩
  obtain ⟨b, o, e, hlt, hc⟩ := h.2 hn
  have hb := hne hn _ e
  exact ⟨b, o, e, Nat.lt_of_lt_of_le hlt hg.size, fun i s hi => (World.cell?_of_block (a := ⟨b, o + i, none⟩) (hg.block b hlt (fun e => hb (by injection e with e)))).trans (hc i s hi)⟩
theorem grown_setC (w : World) (p : Addr) (u : Value) : w.grownBy (w.setCell p u) (some p.block) :=
  ⟨rfl, rfl, rfl, Nat.le_of_eq (by simp [World.setCell]), fun k hk hne => Below.heap_setCell w p u k (fun e => hne (by rw [e]))⟩
theorem NM.setX {w : World} {r : Nat} {A : Option Addr} {nf cf : Nat} {free : List Bs} {st : St} (h : NM w r A nf cf free st) (i : Nat) : NM (w.setCell ⟨r, 1, none⟩ (.int .i64 i)) r A nf cf free ⟨i, st.k⟩ := by
  refine ⟨?_, rowS_grown h.row (grown_setC w ⟨r, 1, none⟩ _) h.ne, h.ne⟩
  have hb := h.box
  simp only [World.setCell]
  rw [Array.getElem?_modify, if_pos rfl, hb]; rfl
theorem NM.setK {w : World} {r : Nat} {A : Option Addr} {nf cf : Nat} {free : List Bs} {st : St} (h : NM w r A nf cf free st) (i : Nat) : NM (w.setCell ⟨r, 2, none⟩ (.int .i64 i)) r A nf cf free ⟨st.x, i⟩ := by
  refine ⟨?_, rowS_grown h.row (grown_setC w ⟨r, 2, none⟩ _) h.ne, h.ne⟩
  have hb := h.box
  simp only [World.setCell]
  rw [Array.getElem?_modify, if_pos rfl, hb]; rfl
/-- A number in a cell. -/
def cellN (w : World) (a : Addr) : Nat := match w.cell? a with
  | some (.int _ z) => z.toNat
  | _ => 0
theorem cellN_of {w : World} {a : Addr} {k : IntKind} {i : Nat} (h : w.cell? a = some (.int k i)) : cellN w a = i := by simp [cellN, h]
theorem grown_below_in {w w' : World} {r : Option Nat} (h : Below w.heap.size w w') : w.grownBy w' r := below_grown h r

set_option maxHeartbeats 1000000 in
theorem freshX_any (r : Nat) (A : Option Addr) (nf cf : Nat) (free : List Bs) (st : St) (w : World) (h : NM w r A nf cf free st) (hf : nf ≤ 100000) (hst : nxt free true st.x ≤ 1000000) :
    Calls Tryz.prog 45 #[.pointer (some ⟨r, 0, none⟩), .bool true] w fun e w' => e = .returned (.string (bs' (cname true (nxt free true st.x)))) ∧ NM w' r A nf cf free ⟨nxt free true st.x + 1, st.k⟩ ∧ w.grownBy w' (some r) := by
  obtain ⟨m1, m2, m3⟩ := nxt_least free true st.x
  have h' := Lib.hid h
  have m1' := Lib.hid m1
  have m3' := Lib.hid m3
  generalize nxt free true st.x = m at *
  clear h m1 m3
  go_enter Tryz.func45, Tryz.ntmps45
  go_wp2_with fail
  go_loopw [] (fun wr => ∃ i : Nat, st.x ≤ i ∧ i ≤ m ∧ NM wr r A nf cf free ⟨i, st.k⟩ ∧ w.grownBy wr (some r)) (fun w' => m + 1 - cellN w' ⟨r, 1, none⟩)
  case atStart => exact ⟨st.x, Nat.le_refl _, m2, h'.out, below_grown (Below.refl _ _) _⟩
  case round =>
    obtain ⟨i, hi1, hi2, hn, hg⟩ := hrel
    obtain ⟨hlt, c0, c1, c2, hfz⟩ := hn.cells
    have cc : wr.cell? ⟨r, 1, none⟩ = some (.int .i64 (i : Int)) := c1
    have hmeas := Lib.hid (cellN_of cc)
    have hdec := Lib.hid (fun W => l6dec_any i (by omega) W)
    have hdl := dec_len 8 i (by omega)
    have hcn : Hid ((⟨#[120]⟩ ++ ⟨(dec i).toArray⟩ : ByteArray) = bs' (cname true i)) := ba_append [120] (dec i)
    have hsz : (⟨(dec i).toArray⟩ : ByteArray).size ≤ 9 := hdl
    generalize (⟨(dec i).toArray⟩ : ByteArray) = u at *
    have f1 := hfz 1
    have hn' := Lib.hid hn
    have hg' := Lib.hid hg
    clear hn hg hfz hdl c0 c1 c2
    go_wp2_with fail
    refine Calls.mono (hdec.out _) ?_
    rintro e w1 ⟨rfl, hb1⟩
    have hn1 := hn'.out.below hb1
    obtain ⟨hlt1, c0, c1, c2, hfz⟩ := hn1.cells
    have cc1 : w1.cell? ⟨r, 1, none⟩ = some (.int .i64 (i : Int)) := c1
    have f1' := hfz 1
    have hn2 : Hid (NM (w1.setCell ⟨r, 1, none⟩ (.int .i64 ((i : Int) + 1))) r A nf cf free ⟨i + 1, st.k⟩) := hn1.setX (i + 1)
    have hg2 : Hid (w.grownBy (w1.setCell ⟨r, 1, none⟩ (.int .i64 ((i : Int) + 1))) (some r)) := (hg'.out.trans (below_grown hb1 _)).trans (grown_setC w1 ⟨r, 1, none⟩ _)
    have c02 := hn2.out.cells.2.1
    have cm2 := Lib.hid (cellN_of (i := i + 1) (hn2.out.cells.2.2.1))
    have hhas := Lib.hid (has_any A nf cf (free.map bs') (bs' (cname true i)) _ hn2.out.row (by omega))
    rw [show isIn (bs' (cname true i)) (free.map bs') = decide (cname true i ∈ free) from isIn_bs _ _] at hhas
    clear hfz hn1 hb1 c1 c2
    by_cases hm : cname true i ∈ free
    · rw [decide_eq_true hm] at hhas
      have him : i ≠ m := fun e => m1'.out (e ▸ hm)
      clear hm
      go_wp2_with fail
      rw [hcn.out]
      refine Calls.mono hhas.out ?_
      rintro e w3 ⟨rfl, rfl⟩
      go_wp2_with fail
      go_roundw
      case rel => exact ⟨i + 1, by omega, by omega, hn2.out, hg2.out⟩
      case measure =>
        rw [hmeas.out]
        have := cm2.out
        omega
    · rw [decide_eq_false hm] at hhas
      have him : i = m := by
        rcases Nat.lt_or_ge i m with h1 | h1
        · exact absurd (m3'.out i hi1 h1) hm
        · omega
      have him' := Lib.hid him
      clear hm him
      go_wp2_with fail
      rw [hcn.out]
      refine Calls.mono hhas.out ?_
      rintro e w3 ⟨rfl, rfl⟩
      go_wp2_with fail
      go_ret
      obtain rfl := him'.out
      exact ⟨rfl, hn2.out, hg2.out⟩

set_option maxHeartbeats 1000000 in
theorem freshK_any (r : Nat) (A : Option Addr) (nf cf : Nat) (free : List Bs) (st : St) (w : World) (h : NM w r A nf cf free st) (hf : nf ≤ 100000) (hst : nxt free false st.k ≤ 1000000) :
    Calls Tryz.prog 45 #[.pointer (some ⟨r, 0, none⟩), .bool false] w fun e w' => e = .returned (.string (bs' (cname false (nxt free false st.k)))) ∧ NM w' r A nf cf free ⟨st.x, nxt free false st.k + 1⟩ ∧ w.grownBy w' (some r) := by
  obtain ⟨m1, m2, m3⟩ := nxt_least free false st.k
  have h' := Lib.hid h
  have m1' := Lib.hid m1
  have m3' := Lib.hid m3
  generalize nxt free false st.k = m at *
  clear h m1 m3
  go_enter Tryz.func45, Tryz.ntmps45
  go_wp2_with fail
  go_loopw [] (fun wr => ∃ i : Nat, st.k ≤ i ∧ i ≤ m ∧ NM wr r A nf cf free ⟨st.x, i⟩ ∧ w.grownBy wr (some r)) (fun w' => m + 1 - cellN w' ⟨r, 2, none⟩)
  case atStart => exact ⟨st.k, Nat.le_refl _, m2, h'.out, below_grown (Below.refl _ _) _⟩
  case round =>
    obtain ⟨i, hi1, hi2, hn, hg⟩ := hrel
    obtain ⟨hlt, c0, c1, c2, hfz⟩ := hn.cells
    have cc : wr.cell? ⟨r, 2, none⟩ = some (.int .i64 (i : Int)) := c2
    have hmeas := Lib.hid (cellN_of cc)
    have hdec := Lib.hid (fun W => l6dec_any i (by omega) W)
    have hdl := dec_len 8 i (by omega)
    have hcn : Hid ((⟨#[107]⟩ ++ ⟨(dec i).toArray⟩ : ByteArray) = bs' (cname false i)) := ba_append [107] (dec i)
    have hsz : (⟨(dec i).toArray⟩ : ByteArray).size ≤ 9 := hdl
    generalize (⟨(dec i).toArray⟩ : ByteArray) = u at *
    have f1 := hfz 2
    have hn' := Lib.hid hn
    have hg' := Lib.hid hg
    clear hn hg hfz hdl c0 c1 c2
    go_wp2_with fail
    refine Calls.mono (hdec.out _) ?_
    rintro e w1 ⟨rfl, hb1⟩
    have hn1 := hn'.out.below hb1
    obtain ⟨hlt1, c0, c1, c2, hfz⟩ := hn1.cells
    have cc1 : w1.cell? ⟨r, 2, none⟩ = some (.int .i64 (i : Int)) := c2
    have f1' := hfz 2
    have hn2 : Hid (NM (w1.setCell ⟨r, 2, none⟩ (.int .i64 ((i : Int) + 1))) r A nf cf free ⟨st.x, i + 1⟩) := hn1.setK (i + 1)
    have hg2 : Hid (w.grownBy (w1.setCell ⟨r, 2, none⟩ (.int .i64 ((i : Int) + 1))) (some r)) := (hg'.out.trans (below_grown hb1 _)).trans (grown_setC w1 ⟨r, 2, none⟩ _)
    have c02 := hn2.out.cells.2.1
    have cm2 := Lib.hid (cellN_of (i := i + 1) (hn2.out.cells.2.2.2.1))
    have hhas := Lib.hid (has_any A nf cf (free.map bs') (bs' (cname false i)) _ hn2.out.row (by omega))
    rw [show isIn (bs' (cname false i)) (free.map bs') = decide (cname false i ∈ free) from isIn_bs _ _] at hhas
    clear hfz hn1 hb1 c1 c2
    by_cases hm : cname false i ∈ free
    · rw [decide_eq_true hm] at hhas
      have him : i ≠ m := fun e => m1'.out (e ▸ hm)
      clear hm
      go_wp2_with fail
      rw [hcn.out]
      refine Calls.mono hhas.out ?_
      rintro e w3 ⟨rfl, rfl⟩
      go_wp2_with fail
      go_roundw
      case rel => exact ⟨i + 1, by omega, by omega, hn2.out, hg2.out⟩
      case measure =>
        rw [hmeas.out]
        have := cm2.out
        omega
    · rw [decide_eq_false hm] at hhas
      have him : i = m := by
        rcases Nat.lt_or_ge i m with h1 | h1
        · exact absurd (m3'.out i hi1 h1) hm
        · omega
      have him' := Lib.hid him
      clear hm him
      go_wp2_with fail
      rw [hcn.out]
      refine Calls.mono hhas.out ?_
      rintro e w3 ⟨rfl, rfl⟩
      go_wp2_with fail
      go_ret
      obtain rfl := him'.out
      exact ⟨rfl, hn2.out, hg2.out⟩

theorem fresh_any (v : Bool) (r : Nat) (A : Option Addr) (nf cf : Nat) (free : List Bs) (st : St) (w : World) (h : NM w r A nf cf free st) (hf : nf ≤ 100000) (hst : nxt free v (st.get v) ≤ 1000000) :
    Calls Tryz.prog 45 #[.pointer (some ⟨r, 0, none⟩), .bool v] w fun e w' => e = .returned (.string (bs' (cname v (nxt free v (st.get v))))) ∧ NM w' r A nf cf free (st.put v (nxt free v (st.get v) + 1)) ∧ w.grownBy w' (some r) := by
  cases v
  · exact freshK_any r A nf cf free st w h hf hst
  · exact freshX_any r A nf cf free st w h hf hst

end Go.Proofs.YtaagbnbekfogiaaGreatDoor
