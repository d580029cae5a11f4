/- The first failing assignment: sequent.firstFailure. -/
import Derived.Test.YtbglimlhffbddaaSeqLetters
import Derived.Test.YtbglimlhffbddaaLettersLaw
import Derived.Deep.Onto
namespace Go.Proofs.Ytbglimlhffbddaa
set_option linter.unusedVariables false
open Go.RowKit

def failsAt (L : List ByteArray) (fs gs : List F) (b : Nat) : Bool := !seqHolds (pick b 0 L) fs gs
def ff (L : List ByteArray) (fs gs : List F) : Option Nat := (List.range (2 ^ L.length)).find? (failsAt L fs gs)
def ffL (L : List ByteArray) (fs gs : List F) : List ByteArray := match ff L fs gs with
  | some b => pick b 0 L
  | none => []

theorem ff_some {L : List ByteArray} {fs gs : List F} {j : Nat} (hj : j < 2 ^ L.length) (hf : failsAt L fs gs j = true) (hn : ∀ i, i < j → failsAt L fs gs i = false) : ff L fs gs = some j := by
  unfold ff
  rw [List.find?_range_eq_some]
  exact ⟨hf, List.mem_range.2 hj, fun i hi => by rw [hn i hi]; rfl⟩
theorem ff_none {L : List ByteArray} {fs gs : List F} (hn : ∀ i, i < 2 ^ L.length → failsAt L fs gs i = false) : ff L fs gs = none := by
  unfold ff
  rw [List.find?_range_eq_none]
  exact fun i hi => by rw [hn i hi]; rfl

theorem keepB {S : World → Prop} {w w1 w2 : World} {o : Obj} (h : ∀ W', Below (w.heap.size + 1) (w.alloc o) W' → S W') (h1 : Below (w.heap.size + 1) (w.alloc o) w1) (hs : w.heap.size + 1 ≤ w1.heap.size) (h2 : Below w1.drew.heap.size w1.drew w2) : S w2 :=
  h _ (h1.drew.trans (h2.mono hs))
theorem keepB2 {S : World → Prop} {w w1 w2 w3 : World} {o : Obj} (h : ∀ W', Below (w.heap.size + 1) (w.alloc o) W' → S W') (h1 : Below (w.heap.size + 1) (w.alloc o) w1) (hs : w.heap.size + 1 ≤ w1.heap.size) (h2 : Below w1.drew.heap.size w1.drew w2) (h3 : Below w2.heap.size w2 w3) : S w3 :=
  h _ (h1.drew.trans ((below_step h2 (Nat.le_refl _) h3).mono hs))
theorem pow_wrap (k : Nat) (hk : k ≤ 10) : ∃ N : Nat, wrap64 (2 ^ k) = (N : Int) ∧ N = 2 ^ k ∧ N ≤ 1024 := by
  have h1 : 2 ^ k ≤ 1024 := Nat.le_trans (Nat.pow_le_pow_right (by omega) hk) (by decide)
  have h2 : (2 : Int) ^ k = ((2 ^ k : Nat) : Int) := by simp
  refine ⟨2 ^ k, ?_, rfl, h1⟩
  rw [h2]
  generalize (2 ^ k : Nat) = N at h1 ⊢
  exact IntWalk.wrap64_in _ ⟨by omega, by omega⟩

set_option maxRecDepth 100000 in
theorem first_any (lo : Nat) (A B C : Option Addr) (n c m d k e : Nat) (fs gs : List F) (L : List ByteArray) (w : World) (hf : RowF lo w A n fs) (hg : RowF lo w B m gs) (hC : RowS w C k L)
    (of : ∀ f ∈ fs, f.ok = true) (og : ∀ g ∈ gs, g.ok = true) (hn : n + m ≤ 12) (hk : k ≤ 10) (hL : ∀ s ∈ L, s.size ≤ maxLen) :
    Calls Try.prog 16 #[.agg #[.slice A n c, .slice B m d], .slice C k e] w (SRet (ffL L fs gs) (ff L fs gs).isSome w) := by
  have hS := two_kept w (.slice A n c) (.slice B m d) 47
  have hlk := Lib.hid hC.1
  have hch := Lib.hid (fun W b (hb : b < 1024) (hW : Below w.heap.size w W) => choose_any C k e L b W (hC.below hW) hk hb)
  have hho := Lib.hid (fun W P b (hW : Below w.heap.size w W) (ht : TR W b P) => sqHolds_any P b lo A B n c m d fs gs W ht (hf.below hW) (hg.below hW) of og (by omega) (by omega))
  have hff : Hid (∀ j W P D dd, j < 2 ^ L.length → P = pick j 0 L → failsAt L fs gs j = true → (∀ i, i < j → failsAt L fs gs i = false) → W.ownsRow w.heap.size 9 1 (.slice D P.length dd) P.length (P.map Value.string) → Below w.heap.size w W →
      SRet (ffL L fs gs) (ff L fs gs).isSome w (.returned (.tuple #[.slice D P.length dd, .bool true])) W) := Lib.hid fun j W P D dd h1 h2 h3 h4 h5 h6 => by
    subst h2
    unfold ffL
    rw [ff_some h1 h3 h4]
    exact ⟨D, dd, rfl, h5, h6⟩
  have hnn : Hid (∀ W, (∀ i, i < 2 ^ L.length → failsAt L fs gs i = false) → Below w.heap.size w W → SRet (ffL L fs gs) (ff L fs gs).isSome w (.returned (.tuple #[.slice none 0 0, .bool false])) W) := Lib.hid fun W h1 h2 => by
    unfold ffL
    rw [ff_none h1]
    exact ⟨none, 0, rfl, World.ownsRow_nil _ _ _ _, h2⟩
  have hpl := Lib.hid (fun b => pick_length b L 0)
  have hpm := Lib.hid (fun b s (h : s ∈ pick b 0 L) => hL s (pick_mem b h))
  clear hf hg hC of og hL
  obtain ⟨N, hN, hN2, hN10⟩ := pow_wrap k hk
  rw [hlk.out] at hN2
  have hN2' := Lib.hid hN2
  clear hN2
  go_enter Try.func16, Try.ntmps16
  go_wp2_with fail
  rw [hN]
  clear hN
  go_loopw [11] (fun i wr => ∃ j : Nat, j ≤ N ∧ i = .int .i64 j ∧ (∀ i, i < j → failsAt L fs gs i = false) ∧ Below w.heap.size w wr ∧ Below (w.heap.size + 1) (w.alloc (.cells #[.slice A n c, .slice B m d] 47)) wr)
    (fun i _ => N - (intOf i).toNat)
  case atStart => exact ⟨0, Nat.zero_le _, rfl, fun i hi => absurd hi (by omega), (Below.refl _ _).alloc (Nat.le_refl _) _, Below.refl _ _⟩
  case round =>
    obtain ⟨j, hj, rfl, hall, hb0, hx0⟩ := hrel
    have hs0 : w.heap.size + 1 ≤ wr.heap.size := by have := hx0.size; simpa using this
    by_cases hlt : j < N
    · have i1 : (j : Int) < (N : Int) := by omega
      have hall' := Lib.hid hall
      have hb0' := Lib.hid hb0
      have hx0' := Lib.hid hx0
      clear hall hb0 hx0
      go_wp2_with fail
      refine (hch.out _ j (by omega) hb0'.out).mono ?_
      rintro e w1 ⟨D, dd, rfl, own1, hb1⟩
      have hbel1 := Lib.hid (below_step hb0'.out (Nat.le_refl _) hb1)
      have hx1 := Lib.hid (hx0'.out.trans (hb1.mono hs0))
      have hs1 : w.heap.size + 1 ≤ w1.heap.size := Nat.le_trans hs0 hb1.size
      have hlo : w.heap.size ≤ wr.heap.size := by omega
      have hfail : failsAt L fs gs j = !seqHolds (pick j 0 L) fs gs := rfl
      have hP := hpl.out j
      have hL10 : L.length ≤ 10 := by have := hlk.out; omega
      have hPm := Lib.hid (hpm.out j)
      generalize hPe : pick j 0 L = P at *
      have hPe' := Lib.hid hPe
      clear hPe
      have ht := Lib.hid (truths_any D P.length dd P w1.drew ⟨RowS.of_own (own1), hPm.out⟩ (by omega))
      have own1' := Lib.hid own1
      have hh := Lib.hid (fun W b (hW : Below w.heap.size w W) (htr : TR W b P) => hho.out W P b hW htr)
      generalize hz : seqHolds P fs gs = z at *
      clear hb1 own1
      have hfz : Hid (failsAt L fs gs j = !z) := Lib.hid hfail
      have hlo' := hlo
      clear hfail hz
      go_wp2_with fail
      go_region_held3 (fun w' => w'.cell? ⟨w.heap.size, 0, none⟩ = some (.slice A n c) ∧ w'.cell? ⟨w.heap.size, 1, none⟩ = some (.slice B m d))
        (first | exact hS.out _ hx1.out.drew | exact keepB hS.out hx1.out hs1 hb2 | exact keepB2 hS.out hx1.out hs1 hb2 hb3)
        (first
          | (go_at_call 27; refine Calls.mono ht.out ?_; rintro e w2 ⟨b, rfl, hm2, tr, hb2⟩)
          | (go_at_call 26; refine Calls.mono (hh.out _ b (below_step hbel1.out.drew (Nat.le_refl _) hb2) tr) ?_; rintro e w3 ⟨rfl, hb3⟩))
      have hx3 := Lib.hid (keepB2 (S := fun W => Below (w.heap.size + 1) (w.alloc (.cells #[.slice A n c, .slice B m d] 47)) W) (fun _ h => h) hx1.out hs1 hb2 hb3)
      have hb4 := Lib.hid (below_step (below_step hbel1.out.drew (Nat.le_refl _) hb2) (Nat.le_refl _) hb3)
      have own3 := Lib.hid (own_below (own_below (own1'.out.drew) hb2) hb3)
      clear hb2 hb3 tr
      cases z
      · go_wp2_with fail
        refine bodyPost_ret (v := .tuple #[.slice D P.length dd, .bool true]) (by simp [results, Try.results16, go_sem]) rfl ?_
        exact hff.out j _ P D dd (by rw [← hN2'.out]; exact hlt) hPe'.out.symm (by rw [hfz.out]; rfl) hall'.out (own3.out.mono hlo) hb4.out
      · go_wp2_with fail
        go_roundw
        case rel =>
          refine ⟨j + 1, by omega, by go_num, fun i hi => ?_, hb4.out, hx3.out⟩
          by_cases e : i = j
          · subst e; rw [hfz.out]; rfl
          · exact hall'.out i (by omega)
        case measure => simp [intOf]; omega
    · have hall' := Lib.hid hall
      have hb0' := Lib.hid hb0
      clear hall hb0 hx0
      go_wp2_with fail
      refine bodyPost_ret (v := .tuple #[.slice none 0 0, .bool false]) (by simp [results, Try.results16, go_sem]) rfl ?_
      exact hnn.out _ (fun i hi => hall'.out i (by rw [← hN2'.out] at hi; omega)) hb0'.out

end Go.Proofs.Ytbglimlhffbddaa
