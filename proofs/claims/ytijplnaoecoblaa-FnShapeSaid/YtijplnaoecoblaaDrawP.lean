/- spec.l6Open, spec.l91Program, and what the laws of programs draw. -/
import Derived.Test.YtijplnaoecoblaaDrawL
namespace Go.Proofs.Ytijplnaoecoblaa
set_option linter.unusedVariables false
open Go.RowKit

theorem rd_open {w : World} {A : Option Addr} {n : Nat} (c : Nat) (hr : ByteRow w A n) (hn : n ≤ 2000) (hne : 0 < n → ∀ a, A = some a → a.block < w.heap.size) : RD (w.alloc (.cells #[.slice A n c, .int .i64 0] 55)) w.heap.size A n c 0 := by
  refine ⟨⟨0, Nat.le_refl _, heap_alloc_new _ _⟩, fun h => ?_, fun h a ha => by have := hne h a ha; omega, hn⟩
  obtain ⟨b, o, e, hlt, hc⟩ := hr h
  exact ⟨b, o, e, by simp; omega, fun i hi => by
    obtain ⟨z, hz, hcz⟩ := hc i hi
    exact ⟨z, hz, (World.cell?_alloc_lt _ _ _ (by exact hlt)).trans hcz⟩⟩
theorem ByteRow.take {w : World} {A : Option Addr} {n m : Nat} (h : ByteRow w A n) (hm : m ≤ n) : ByteRow w A m := fun h0 => by
  obtain ⟨b, o, e, hlt, hc⟩ := h (by omega)
  exact ⟨b, o, e, hlt, fun i hi => hc i (by omega)⟩

set_option maxRecDepth 100000 in
theorem open_any (A : Option Addr) (n c : Nat) (w : World) (hr : ByteRow w A n) (hc : n ≤ c) :
    Calls Try.prog 9 #[.slice A n c] w fun e w' => ∃ r A' n' c', e = .returned (.pointer (some ⟨r, 0, none⟩)) ∧ RD w' r A' n' c' 0 ∧ w.heap.size ≤ r ∧ Below w.heap.size w w' := by
  by_cases h0 : n = 0
  · subst h0
    have hfin := Lib.hid (rd_open c hr (by omega) (fun h => absurd h (by omega)))
    clear hr
    go_enter Try.func9, Try.ntmps9
    go_wp2_with fail
    go_ret
    exact ⟨_, _, _, _, rfl, hfin.out, Nat.le_refl _, (by repeat (with_reducible first | exact hbel | exact Below.refl _ _ | refine Below.drew ?_ | refine Below.drewN ?_ _ | refine Below.alloc ?_ (by first | (simp; done) | (simp; omega) | omega | (have := Below.size hbel; simp; omega) | (have := Below.size hbel; omega)) _ | refine Below.setCell ?_ (by first | (simp; done) | (simp; omega) | omega) _))⟩
  · obtain ⟨b, o, rfl, hblt, hcc⟩ := hr (by omega)
    by_cases h2 : 2000 < n
    · have hn2 : (2000 : Int) < (n : Int) := by omega
      have hfin := Lib.hid (rd_open c (hr.take (m := 2000) (by omega)) (by omega) (fun _ a ha => by injection ha with ha; subst ha; exact hblt))
      clear hr hcc
      go_enter Try.func9, Try.ntmps9
      go_wp2_with fail
      go_ret
      exact ⟨_, _, _, _, rfl, hfin.out, Nat.le_refl _, (by repeat (with_reducible first | exact hbel | exact Below.refl _ _ | refine Below.drew ?_ | refine Below.drewN ?_ _ | refine Below.alloc ?_ (by first | (simp; done) | (simp; omega) | omega | (have := Below.size hbel; simp; omega) | (have := Below.size hbel; omega)) _ | refine Below.setCell ?_ (by first | (simp; done) | (simp; omega) | omega) _))⟩
    · have hn2 : ¬ (2000 : Int) < (n : Int) := by omega
      have hfin := Lib.hid (rd_open c hr (by omega) (fun _ a ha => by injection ha with ha; subst ha; exact hblt))
      clear hr hcc
      go_enter Try.func9, Try.ntmps9
      go_wp2_with fail
      go_ret
      first
        | exact ⟨_, _, _, _, rfl, hfin.out, Nat.le_refl _, (by repeat (with_reducible first | exact hbel | exact Below.refl _ _ | refine Below.drew ?_ | refine Below.drewN ?_ _ | refine Below.alloc ?_ (by first | (simp; done) | (simp; omega) | omega | (have := Below.size hbel; simp; omega) | (have := Below.size hbel; omega)) _ | refine Below.setCell ?_ (by first | (simp; done) | (simp; omega) | omega) _))⟩
        | exact ⟨_, rfl, ⟨_, _, _, hfin.out⟩, Nat.le_refl _, (by repeat (with_reducible first | exact hbel | exact Below.refl _ _ | refine Below.drew ?_ | refine Below.drewN ?_ _ | refine Below.alloc ?_ (by first | (simp; done) | (simp; omega) | omega | (have := Below.size hbel; simp; omega) | (have := Below.size hbel; omega)) _ | refine Below.setCell ?_ (by first | (simp; done) | (simp; omega) | omega) _))⟩

/-- What a law of programs draws: a text of at most 192 bytes. -/
def DrawRet (w : World) (e : Ending) (w' : World) : Prop := ∃ s : ByteArray, s.size ≤ 192 ∧ e = .returned (.string s) ∧ Below w.heap.size w w'

end Go.Proofs.Ytijplnaoecoblaa
