/- What is drawn: (*l6Rd).of, l6Open. spec.l6Open, spec.l91Program, and what the laws of programs draw. -/
import Derived.Test.YtchkmdagbjbcjaaGreatDoorPickR
namespace Go.Proofs.YtchkmdagbjbcjaaGreatDoor
set_option linter.unusedVariables false
open Go.RowKit

/-- A call draws: it hands back a text of at most L bytes, and reads on by at most K places. -/
def DRet (r : Nat) (A : Option Addr) (n c P L : Nat) (w : World) (e : Ending) (w' : World) : Prop :=
  ∃ s : ByteArray, s.size ≤ L ∧ e = .returned (.string s) ∧ RD w' r A n c P ∧ SF w r w'

set_option maxRecDepth 100000 in
theorem of_any (r : Nat) (A : Option Addr) (n c P : Nat) (g cap : Nat) (ss : List ByteArray) (L : Nat) (w : World) (h : RD w r A n c P) (hP : P ≤ 1000000) (h1 : 1 ≤ ss.length) (h2 : ss.length ≤ 1000)
    (hg : g < w.heap.size) (hne : g ≠ r) (hc : ∀ (i : Nat) (s : ByteArray), ss[i]? = some s → w.cell? ⟨g, i, none⟩ = some (.string s)) (hL : ∀ s ∈ ss, s.size ≤ L) :
    Calls Tryz.prog 26 #[.pointer (some ⟨r, 0, none⟩), .slice (some ⟨g, 0, none⟩) ss.length cap] w (DRet r A n c (P + 1) L w) := by
  have hpick := Lib.hid (fun W (hW : RD W r A n c P) => pick_any r A n c P ss.length W hW h1 h2 hP)
  have h' := Lib.hid h
  have hc' := Lib.hid hc
  have hL' := Lib.hid hL
  clear h hc hL
  go_enter Tryz.func26, Tryz.ntmps26
  go_wp2_with fail
  refine Calls.mono (hpick.out _ h'.out) ?_
  rintro e w1 ⟨k, hk, rfl, rd1, sb1⟩
  have hx := hc'.out k ss[k] (List.getElem?_eq_getElem hk)
  have hx1 := (sb1.cell (o := k) hg hne).trans hx
  have hlk := hL'.out ss[k] (List.getElem_mem hk)
  have hk1 : (k : Int) < (ss.length : Int) := by omega
  have hg1 : g < w1.heap.size := Nat.lt_of_lt_of_le hg sb1.size
  generalize ss[k] = t at *
  have hlk' := Lib.hid hlk
  have rd1' := Lib.hid rd1
  have sb1' := Lib.hid sb1
  clear hlk rd1 sb1 hx
  go_wp2_with fail
  go_ret
  exact ⟨t, hlk'.out, rfl, rd1'.out, sb1'.out⟩

theorem DRet.from {r : Nat} {A : Option Addr} {n c P L : Nat} {w W : World} {e : Ending} {w' : World} (hW : SF w r W) (h : DRet r A n c P L W e w') : DRet r A n c P L w e w' := by
  obtain ⟨s, hs, he, rd, sb⟩ := h
  exact ⟨s, hs, he, rd, sf_trans hW sb⟩
theorem RD.alloc {w : World} {r : Nat} {A : Option Addr} {n c P : Nat} (h : RD w r A n c P) (o : Obj) : RD (w.alloc o) r A n c P := by
  obtain ⟨⟨p, hp, hb⟩, hrow, hne, hl⟩ := h
  have hr : r < w.heap.size := (two_cells hb).1
  refine ⟨⟨p, hp, (Below.heap_alloc _ _ _ hr).trans hb⟩, fun hn => ?_, hne, hl⟩
  obtain ⟨b, o', e, hlt, hc⟩ := hrow hn
  exact ⟨b, o', e, by simp; omega, fun i hi => by
    obtain ⟨z, hz, h⟩ := hc i hi
    exact ⟨z, hz, (World.cell?_alloc_lt _ _ _ (by exact hlt)).trans h⟩⟩
theorem RD.lt {w : World} {r : Nat} {A : Option Addr} {n c P : Nat} (h : RD w r A n c P) : r < w.heap.size := by
  obtain ⟨⟨p, hp, hb⟩, _⟩ := h
  exact (two_cells hb).1
theorem RD.mono {w : World} {r : Nat} {A : Option Addr} {n c P Q : Nat} (h : RD w r A n c P) (hPQ : P ≤ Q) : RD w r A n c Q := by
  obtain ⟨⟨p, hp, hb⟩, h2, h3, h4⟩ := h
  exact ⟨⟨p, by omega, hb⟩, h2, h3, h4⟩

/-- A list of texts that the text itself writes out, read from. -/
theorem of_lit (r : Nat) (A : Option Addr) (n c P : Nat) (ss : List ByteArray) (L : Nat) (w : World) (h : RD w r A n c P) (hP : P ≤ 1000000) (h1 : 1 ≤ ss.length) (h2 : ss.length ≤ 1000) (hL : ∀ s ∈ ss, s.size ≤ L) (cs : Array Value) (hcs : cs = (ss.map Value.string).toArray) (cap : Nat) (E : TypeId) :
    Calls Tryz.prog 26 #[.pointer (some ⟨r, 0, none⟩), .slice (some ⟨w.heap.size, 0, none⟩) ss.length cap] (w.alloc (.cells cs E)) (DRet r A n c (P + 1) L w) := by
  have hr := h.lt
  refine Calls.mono (of_any r A n c P w.heap.size cap ss L (w.alloc (.cells cs E)) (h.alloc _) hP h1 h2 (by simp) (by omega) (fun i s hi => ?_) hL) (fun e w' hd => hd.from (sf_alloc (sf_refl w r) _))
  subst hcs
  exact block_cells (heap_alloc_new w _) i _ (by simp [hi])

theorem lit_size (l : List UInt8) : (⟨l.toArray⟩ : ByteArray).size = l.length := rfl

end Go.Proofs.YtchkmdagbjbcjaaGreatDoor

namespace Go.Proofs.YtchkmdagbjbcjaaGreatDoor
set_option linter.unusedVariables false
open Go.RowKit

theorem rd_open {w : World} {A : Option Addr} {n : Nat} (c : Nat) (hr : ByteRow w A n) (hn : n ≤ 2000) (hne : 0 < n → ∀ a, A = some a → a.block < w.heap.size) : RD (w.alloc (.cells #[.slice A n c, .int .i64 0] 60)) w.heap.size A n c 0 := by
  refine ⟨⟨0, Nat.le_refl _, heap_alloc_new _ _⟩, fun h => ?_, fun h a ha => by have := hne h a ha; omega, hn⟩
  obtain ⟨b, o, e, hlt, hc⟩ := hr h
  exact ⟨b, o, e, by simp; omega, fun i hi => by
    obtain ⟨z, hz, hcz⟩ := hc i hi
    exact ⟨z, hz, (World.cell?_alloc_lt _ _ _ (by exact hlt)).trans hcz⟩⟩
theorem ByteRow.take {w : World} {A : Option Addr} {n m : Nat} (h : ByteRow w A n) (hm : m ≤ n) : ByteRow w A m := fun h0 => by
  obtain ⟨b, o, e, hlt, hc⟩ := h (by omega)
  exact ⟨b, o, e, hlt, fun i hi => hc i (by omega)⟩

set_option maxRecDepth 100000 in
theorem open_any (A : Option Addr) (n c : Nat) (w : World) (hr : ByteRow w A n) (hc : n ≤ c) :
    Calls Tryz.prog 15 #[.slice A n c] w fun e w' => ∃ r A' n' c', e = .returned (.pointer (some ⟨r, 0, none⟩)) ∧ RD w' r A' n' c' 0 ∧ w.heap.size ≤ r ∧ Below w.heap.size w w' := by
  by_cases h0 : n = 0
  · subst h0
    have hfin := Lib.hid (rd_open c hr (by omega) (fun h => absurd h (by omega)))
    clear hr
    go_enter Tryz.func15, Tryz.ntmps15
    go_wp2_with fail
    go_ret
    exact ⟨_, _, _, _, rfl, hfin.out, Nat.le_refl _, (by repeat (with_reducible first | exact hbel | exact Below.refl _ _ | refine Below.drew ?_ | refine Below.drewN ?_ _ | refine Below.alloc ?_ (by first | (simp; done) | (simp; omega) | omega | (have := Below.size hbel; simp; omega) | (have := Below.size hbel; omega)) _ | refine Below.setCell ?_ (by first | (simp; done) | (simp; omega) | omega) _))⟩
  · obtain ⟨b, o, rfl, hblt, hcc⟩ := hr (by omega)
    by_cases h2 : 2000 < n
    · have hn2 : (2000 : Int) < (n : Int) := by omega
      have hfin := Lib.hid (rd_open c (hr.take (m := 2000) (by omega)) (by omega) (fun _ a ha => by injection ha with ha; subst ha; exact hblt))
      clear hr hcc
      go_enter Tryz.func15, Tryz.ntmps15
      go_wp2_with fail
      go_ret
      exact ⟨_, _, _, _, rfl, hfin.out, Nat.le_refl _, (by repeat (with_reducible first | exact hbel | exact Below.refl _ _ | refine Below.drew ?_ | refine Below.drewN ?_ _ | refine Below.alloc ?_ (by first | (simp; done) | (simp; omega) | omega | (have := Below.size hbel; simp; omega) | (have := Below.size hbel; omega)) _ | refine Below.setCell ?_ (by first | (simp; done) | (simp; omega) | omega) _))⟩
    · have hn2 : ¬ (2000 : Int) < (n : Int) := by omega
      have hfin := Lib.hid (rd_open c hr (by omega) (fun _ a ha => by injection ha with ha; subst ha; exact hblt))
      clear hr hcc
      go_enter Tryz.func15, Tryz.ntmps15
      go_wp2_with fail
      go_ret
      first
        | exact ⟨_, _, _, _, rfl, hfin.out, Nat.le_refl _, (by repeat (with_reducible first | exact hbel | exact Below.refl _ _ | refine Below.drew ?_ | refine Below.drewN ?_ _ | refine Below.alloc ?_ (by first | (simp; done) | (simp; omega) | omega | (have := Below.size hbel; simp; omega) | (have := Below.size hbel; omega)) _ | refine Below.setCell ?_ (by first | (simp; done) | (simp; omega) | omega) _))⟩
        | exact ⟨_, rfl, ⟨_, _, _, hfin.out⟩, Nat.le_refl _, (by repeat (with_reducible first | exact hbel | exact Below.refl _ _ | refine Below.drew ?_ | refine Below.drewN ?_ _ | refine Below.alloc ?_ (by first | (simp; done) | (simp; omega) | omega | (have := Below.size hbel; simp; omega) | (have := Below.size hbel; omega)) _ | refine Below.setCell ?_ (by first | (simp; done) | (simp; omega) | omega) _))⟩

/-- What a law of programs draws: a text of at most 192 bytes. -/
def DrawRet (w : World) (e : Ending) (w' : World) : Prop := ∃ s : ByteArray, s.size ≤ 192 ∧ e = .returned (.string s) ∧ Below w.heap.size w w'

end Go.Proofs.YtchkmdagbjbcjaaGreatDoor
