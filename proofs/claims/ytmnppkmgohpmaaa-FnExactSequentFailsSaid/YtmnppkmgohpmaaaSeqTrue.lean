/- The model's l1True and SequentHolds. -/
import Derived.Test.YtmnppkmgohpmaaaSeqSpec
namespace Go.Proofs.Ytmnppkmgohpmaaa
open Go.RowKit

theorem l1True_any (A B C : Option Addr) (n c m d k e : Nat) (fs gs : List F) (L : List ByteArray) (w : World) (D : Nat → Prop) (hA : TCs w D (fs.map F.tree) A n) (hB : TCs w D (gs.map F.tree) B m)
    (hD : ∀ g, D g → g < w.heap.size) (hC : RowS w C k L) (hk : k ≤ 10000000) (hn : n ≤ 1000) (hm : m ≤ 1000) :
    Calls Try.prog 48 #[.slice A n c, .slice B m d, .slice C k e] w fun e w' => e = .returned (.bool (seqHolds L fs gs)) ∧ Below w.heap.size w w' := by
  have yes : Hid (∀ k W, Below w.heap.size w W → (fs.take k).any (fun f => !f.holds L) = true → (.returned (.bool true) : Ending) = .returned (.bool (seqHolds L fs gs)) ∧ Below w.heap.size w W) := Lib.hid fun k W hb h => by
    rw [seqHolds, any_upto _ h]; exact ⟨rfl, hb⟩
  have yes2 : Hid (∀ k W, Below w.heap.size w W → (gs.take k).any (fun f => f.holds L) = true → (.returned (.bool true) : Ending) = .returned (.bool (seqHolds L fs gs)) ∧ Below w.heap.size w W) := Lib.hid fun k W hb h => by
    rw [seqHolds, any_upto _ h, Bool.or_true]; exact ⟨rfl, hb⟩
  have no : Hid (∀ W, Below w.heap.size w W → fs.any (fun f => !f.holds L) = false → gs.any (fun f => f.holds L) = false → (.returned (.bool false) : Ending) = .returned (.bool (seqHolds L fs gs)) ∧ Below w.heap.size w W) := Lib.hid fun W hb h h' => by
    rw [seqHolds, h, h']; exact ⟨rfl, hb⟩
  generalize seqHolds L fs gs = z at *
  have hA' := Lib.hid hA
  have hB' := Lib.hid hB
  have hD' := Lib.hid hD
  have hlf : Hid (n = fs.length) := Lib.hid (by simpa using hA.1)
  have hlg : Hid (m = gs.length) := Lib.hid (by simpa using hB.1)
  have hcall : Hid (∀ (f : F) W a p l c, Below w.heap.size w W → TC w D f.tree a p l c → Calls Try.prog 41 #[.agg #[.string a, .slice p l c], .slice C k e] W fun e w' => e = .returned (.bool (f.holds L)) ∧ Below W.heap.size W w') :=
    Lib.hid fun f W a p l c hW ht => hs_any f W D a p l c C k e L (ht.below hW hD) (fun g hg => Nat.lt_of_lt_of_le (hD g hg) hW.size) (hC.below hW) (by omega)
  clear hA hB hD hC
  go_enter Try.func48, Try.ntmps48
  go_wp2_with fail
  go_loopw [7] (fun i wr => ∃ j : Nat, j ≤ n ∧ i = .int .i64 j ∧ (fs.take j).any (fun f => !f.holds L) = false ∧ Below w.heap.size w wr)
    (fun i _ => n - (intOf i).toNat)
  case atStart => exact ⟨0, Nat.zero_le _, rfl, rfl, Below.refl _ _⟩
  case round =>
    obtain ⟨j, hj, rfl, hall, hbel⟩ := hrel
    by_cases hlt : j < n
    · obtain ⟨g, rfl, hg, hc⟩ := hA'.out.2 (by omega)
      have l1 : j < fs.length := by have := hlf.out; omega
      obtain ⟨f, hfj⟩ : ∃ f, fs[j]? = some f := ⟨fs[j], List.getElem?_eq_getElem l1⟩
      obtain ⟨a, p, l, cc, x0, x1, tc⟩ := hc j f.tree (by rw [List.getElem?_map, hfj]; rfl)
      have hgw := hD'.out g hg
      have y0 := (hbel.cell (p := ⟨g, j * 2, none⟩) hgw).trans x0
      have y1 := (hbel.cell (p := ⟨g, j * 2 + 1, none⟩) hgw).trans x1
      have hcl := Lib.hid (fun W (hW : Below w.heap.size w W) => hcall.out f W a p l cc hW tc)
      have htk := Lib.hid (any_take (fun f => !f.holds L) hfj hall)
      have i1 : (j : Int) < (n : Int) := by omega
      have i0' : (0 : Int) ≤ (j : Int) := by omega
      have hbel' := Lib.hid hbel
      generalize F.holds L f = r at *
      clear hc hall hbel hfj x0 x1 tc
      go_wp2_with fail
      refine (hcl.out _ hbel'.out).mono ?_
      rintro e w1 ⟨rfl, hb1⟩
      have hb1' := Lib.hid (below_step hbel'.out (Nat.le_refl _) hb1)
      clear hb1
      cases r
      · go_wp2_with fail
        go_ret
        exact yes.out (j + 1) _ hb1'.out htk.out
      · go_wp2_with fail
        go_roundw
        case rel => exact ⟨j + 1, by omega, by go_num, htk.out, hb1'.out⟩
        case measure => simp [intOf]; omega
    · have hall' : Hid (fs.any (fun f => !f.holds L) = false) := Lib.hid (by rw [List.take_of_length_le (by have := hlf.out; omega)] at hall; exact hall)
      have hbel' := Lib.hid hbel
      clear hall hbel
      go_wp2_with fail
      go_loopw [8] (fun i wr => ∃ j : Nat, j ≤ m ∧ i = .int .i64 j ∧ (gs.take j).any (fun f => f.holds L) = false ∧ Below w.heap.size w wr)
        (fun i _ => m - (intOf i).toNat)
      case atStart => exact ⟨0, Nat.zero_le _, rfl, rfl, hbel'.out⟩
      case round =>
        obtain ⟨j, hj, rfl, hall, hbel⟩ := hrel
        by_cases hlt2 : j < m
        · obtain ⟨g, rfl, hg, hc⟩ := hB'.out.2 (by omega)
          have l1 : j < gs.length := by have := hlg.out; omega
          obtain ⟨f, hfj⟩ : ∃ f, gs[j]? = some f := ⟨gs[j], List.getElem?_eq_getElem l1⟩
          obtain ⟨a, p, l, cc, x0, x1, tc⟩ := hc j f.tree (by rw [List.getElem?_map, hfj]; rfl)
          have hgw := hD'.out g hg
          have y0 := (hbel.cell (p := ⟨g, j * 2, none⟩) hgw).trans x0
          have y1 := (hbel.cell (p := ⟨g, j * 2 + 1, none⟩) hgw).trans x1
          have hcl := Lib.hid (fun W (hW : Below w.heap.size w W) => hcall.out f W a p l cc hW tc)
          have htk := Lib.hid (any_take (fun f => f.holds L) hfj hall)
          have i1 : (j : Int) < (m : Int) := by omega
          have i0' : (0 : Int) ≤ (j : Int) := by omega
          have hbel' := Lib.hid hbel
          generalize F.holds L f = r at *
          clear hc hall hbel hfj x0 x1 tc
          go_wp2_with fail
          refine (hcl.out _ hbel'.out).mono ?_
          rintro e w1 ⟨rfl, hb1⟩
          have hb1' := Lib.hid (below_step hbel'.out (Nat.le_refl _) hb1)
          clear hb1
          cases r
          · go_wp2_with fail
            go_roundw
            case rel => exact ⟨j + 1, by omega, by go_num, htk.out, hb1'.out⟩
            case measure => simp [intOf]; omega
          · go_wp2_with fail
            go_ret
            exact yes2.out (j + 1) _ hb1'.out htk.out
        · have hall2 : Hid (gs.any (fun f => f.holds L) = false) := Lib.hid (by rw [List.take_of_length_le (by have := hlg.out; omega)] at hall; exact hall)
          have hbel' := Lib.hid hbel
          clear hall hbel
          go_wp2_with fail
          go_ret
          exact no.out _ hbel'.out hall'.out hall2.out

set_option maxRecDepth 100000 in
theorem specSeqHolds_any (A B C : Option Addr) (n c m d k e : Nat) (ss ts L : List ByteArray) (w : World) (hA : RowS w A n ss) (hB : RowS w B m ts) (hC : RowS w C k L) (hn : n ≤ 10000000) (hm : m ≤ 10000000) (hk : k ≤ 10000000) :
    Calls Try.prog 29 #[.slice A n c, .slice B m d, .slice C k e] w fun e w' => e = .returned (.bool (sqO L (readSq ss ts))) ∧ Below w.heap.size w w' := by
  generalize hb : sqO L (readSq ss ts) = z
  have hb' := Lib.hid hb
  have hC' := Lib.hid hC
  have hR := Lib.hid (fun W (hW : Below w.heap.size w W) => l1Sequent_any A B n c m d ss ts W (hA.below hW) (hB.below hW) hn hm)
  clear hb hC hA hB
  go_enter Try.func29, Try.ntmps29
  go_wp2_with fail
  refine (hR.out _ (by repeat (with_reducible first | exact hbel | exact Below.refl _ _ | refine Below.drew ?_ | refine Below.drewN ?_ _ | refine Below.alloc ?_ (by first | (simp; done) | (simp; omega) | omega | (have := Below.size hbel; simp; omega) | (have := Below.size hbel; omega)) _ | refine Below.setCell ?_ (by first | (simp; done) | (simp; omega) | omega) _))).mono ?_
  rintro e w1 ⟨hb1, A1, n1, c1, B1, m1, d1, rfl, hr1⟩
  have hw1 := Lib.hid hb1
  clear hb1
  cases hrd : readSq ss ts with
  | none =>
    have hbt : Hid (false = z) := by have h := hb'.out; rw [hrd] at h; exact h
    clear hrd hr1
    rw [show (none : Option (List F × List F)).isSome = false from rfl]
    go_wp2_with fail
    go_ret
    have hbel := hw1.out
    exact ⟨ret_bool hbt.out, (by repeat (with_reducible first | exact hbel | exact Below.refl _ _ | refine Below.drew ?_ | refine Below.drewN ?_ _ | refine Below.alloc ?_ (by first | (simp; done) | (simp; omega) | omega | (have := Below.size hbel; simp; omega) | (have := Below.size hbel; omega)) _ | refine Below.setCell ?_ (by first | (simp; done) | (simp; omega) | omega) _))⟩
  | some q =>
    obtain ⟨fs, gs⟩ := q
    have hbt : Hid (seqHolds L fs gs = z) := by have h := hb'.out; rw [hrd] at h; exact h
    obtain ⟨h12, -, -⟩ := readSq_ok hrd
    obtain ⟨hf, hg⟩ := hr1 fs gs hrd
    have hf' := Lib.hid hf
    have hg' := Lib.hid hg
    have e1 : n1 = fs.length := by simpa using hf.1
    have e2 : m1 = gs.length := by simpa using hg.1
    clear hrd hr1 hf hg
    rw [show (some (fs, gs) : Option (List F × List F)).isSome = true from rfl]
    have hT := Lib.hid (l1True_any A1 B1 C n1 c1 m1 d1 k e fs gs L w1 _ hf'.out hg'.out (fun g hg => hg.2) (hC'.out.below hw1.out) hk (by omega) (by omega))
    clear e1 e2
    go_wp2_with (refine hT.out.mono ?_; rintro e w2 ⟨rfl, hb2⟩)
    go_ret
    exact ⟨ret_bool hbt.out, below_step hw1.out (Nat.le_refl _) hb2⟩

end Go.Proofs.Ytmnppkmgohpmaaa
