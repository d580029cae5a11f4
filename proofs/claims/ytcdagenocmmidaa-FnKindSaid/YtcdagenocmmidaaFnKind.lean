/- The law FnKind as a call. -/
import Derived.Test.YtcdagenocmmidaaDrawP
import Derived.Test.YtcdagenocmmidaaDualPLaw
import Derived.Test.YtcdagenocmmidaaKindLaw
import Derived.Test.YtcdagenocmmidaaCanon
import Derived.Test.YtcdagenocmmidaaArgB
namespace Go.Proofs.Ytcdagenocmmidaa
set_option linter.unusedVariables false
open Go.RowKit

set_option maxRecDepth 100000 in
set_option maxHeartbeats 1000000 in
theorem lawFnKind (A : Option Addr) (n c : Nat) (w : World) (hr : ByteRow w A n) (hc : n ≤ c) (hn : n ≤ maxLen) : Calls Try.prog 3 #[.slice A n c] w fun e w' => e = .returned (.bool true) ∧ Below w.heap.size w w' := by
  have hd := Lib.hid (drawKind_any A n c w hr hc)
  unfold maxLen at hn
  clear hr
  by_cases hlen : 1048576 < n
  · have hlen' : (1048576 : Int) < (n : Int) := by omega
    go_enter Try.func3, Try.ntmps3
    go_wp2_with fail
    go_ret
    exact ⟨rfl, Below.refl _ _⟩
  · have hlen' : ¬ (1048576 : Int) < (n : Int) := by omega
    go_enter Try.func3, Try.ntmps3
    go_wp2_with fail
    refine Calls.mono hd.out ?_
    rintro e w1 ⟨s, hs, rfl, hb1⟩
    have hb1' := Lib.hid hb1
    have h1 := Lib.hid (fun W => implKind_any s W)
    have h2 := Lib.hid (fun W => specKind_any s W)
    clear hb1
    cases hrd : readP s.data.toList with
    | none =>
      rw [hrd] at h1 h2
      rw [show kindText none = [] from rfl] at h1 h2
      clear hrd
      go_wp2_with fail
      refine Calls.mono (h1.out _) ?_
      rintro e w2 ⟨rfl, hb2⟩
      go_wp2_with fail
      refine Calls.mono (h2.out _) ?_
      rintro e w3 ⟨rfl, hb3⟩
      go_wp2_with fail
      go_ret
      exact ⟨rfl, below_step (below_step hb1'.out (Nat.le_refl _) hb2) (Nat.le_refl _) hb3⟩
    | some p =>
      have h3 := Lib.hid (fun W => implCanon_any s hs W)
      have h4 := Lib.hid (fun W => implDualP_any s W)
      unfold DPost at h4
      rw [hrd] at h1 h2 h3 h4
      obtain ⟨hst, hnest, hok, h5⟩ := readP_back hrd
      have hsz : p.size ≤ 98 := by
        have h1 := P.size_text hok
        rw [← hst, ← ba_size] at h1
        omega
      obtain ⟨c1, c2, c3, c4⟩ := canon_facts hok hsz
      have hrc : readP p.canon.text = some p.canon := readP_text c1 (by omega) (by rw [c4]; exact hnest)
      have hwB : writeB p.canon = true := by simp [writeB, hrc, c3, h5]
      have hwT : writeT p.canon = p.canon.text := by rw [writeT, if_pos hwB]
      rw [show canonT (some p) = p.canon.text from hwT, show canonB (some p) = true from hwB] at h3
      rw [show dualText (some p) = p.dual.text from rfl, show (some p).isSome = true from rfl] at h4
      have h6 := Lib.hid (fun W => implKind_any ⟨p.canon.text.toArray⟩ W)
      rw [show (⟨p.canon.text.toArray⟩ : ByteArray).data.toList = p.canon.text from rfl, hrc, show kindText (some p.canon) = p.canon.kind.name from rfl, c2] at h6
      have h7 := Lib.hid (fun W => implKind_any ⟨p.dual.text.toArray⟩ W)
      rw [show (⟨p.dual.text.toArray⟩ : ByteArray).data.toList = p.dual.text from rfl, readP_dual hrd, show kindText (some p.dual) = p.dual.kind.name from rfl, P.dual_kind hok] at h7
      rw [show kindText (some p) = p.kind.name from rfl] at h1 h2
      generalize p.canon.text = ct at *
      generalize p.dual.text = dt at *
      generalize p.kind = k at *
      clear hrd hst hrc hwB hwT c1 c2 c3 c4 hnest hok h5 hsz
      cases k
      all_goals
        first
          | rw [show K.t.name = [116, 101, 114, 109] from rfl] at h1 h2 h6
          | rw [show K.c.name = [99, 111, 116, 101, 114, 109] from rfl] at h1 h2 h6
          | rw [show K.s.name = [115, 116, 97, 116, 101, 109, 101, 110, 116] from rfl] at h1 h2 h6
        first
          | rw [show K.t.dual.name = [99, 111, 116, 101, 114, 109] from rfl] at h7
          | rw [show K.c.dual.name = [116, 101, 114, 109] from rfl] at h7
          | rw [show K.s.dual.name = [115, 116, 97, 116, 101, 109, 101, 110, 116] from rfl] at h7
        go_wp2_with fail
        refine Calls.mono (h1.out _) ?_
        rintro e w2 ⟨rfl, hb2⟩
        go_wp2_with fail
        refine Calls.mono (h2.out _) ?_
        rintro e w3 ⟨rfl, hb3⟩
        have hb13 := Lib.hid (below_step (below_step hb1'.out (Nat.le_refl _) hb2) (Nat.le_refl _) hb3)
        clear hb2 hb3
        go_wp2_with fail
        refine Calls.mono (h3.out _) ?_
        rintro e w4 ⟨rfl, hb4⟩
        go_wp2_with fail
        refine Calls.mono (h4.out _) ?_
        rintro e w5 ⟨rfl, hb5⟩
        have hb15 := Lib.hid (below_step (below_step hb13.out (Nat.le_refl _) hb4) (Nat.le_refl _) hb5)
        clear hb4 hb5
        go_wp2_with fail
        refine Calls.mono (h6.out _) ?_
        rintro e w6 ⟨rfl, hb6⟩
        have hb16 := Lib.hid (below_step hb15.out (Nat.le_refl _) hb6)
        clear hb6
        go_wp2_with fail
        refine Calls.mono (h7.out _) ?_
        rintro e w7 ⟨rfl, hb7⟩
        have hb17 := Lib.hid (below_step hb16.out (Nat.le_refl _) hb7)
        clear hb7
        go_wp2_with fail
        go_ret
        exact ⟨rfl, hb17.out⟩

end Go.Proofs.Ytcdagenocmmidaa
