/- Choice of the model. -/
import Derived.Test.YtaagbnbekfogiaaGreatDoorNine5
import Derived.Test.YtaagbnbekfogiaaGreatDoorMathX
import Derived.Test.YtaagbnbekfogiaaGreatDoorRdS
import Derived.BigQuiet
import Derived.Deep.QuietTactic
namespace Go.Proofs.YtaagbnbekfogiaaGreatDoor
set_option linter.unusedVariables false
open Go.RowKit
set_option maxRecDepth 100000

theorem blk_new {W : World} {o : Obj} {g : Nat} (h : g = W.heap.size) : (W.alloc o).heap[g]? = some o := by subst h; exact heap_alloc_new W o
theorem blk_drew {W : World} {o : Option Obj} {g : Nat} (h : W.heap[g]? = o) : W.drew.heap[g]? = o := h
theorem blk_old {W : World} {o : Option Obj} {o' : Obj} {g : Nat} (h : g < W.heap.size) (h2 : W.heap[g]? = o) : (W.alloc o').heap[g]? = o := (Below.heap_alloc W o' g h).trans h2
theorem blk_call {W w1 : World} {o : Option Obj} {g : Nat} (hb : Below W.heap.size W w1) (h : g < W.heap.size) (h2 : W.heap[g]? = o) : w1.heap[g]? = o := (hb.block g h).trans h2

theorem blk_lt {W : World} {g : Nat} {o : Obj} (h : W.heap[g]? = some o) : g < W.heap.size := by
  rcases Nat.lt_or_ge g W.heap.size with h1 | h1
  · exact h1
  · rw [Array.getElem?_eq_none h1] at h; cases h
/-- The new name of two programs, whose trees lie in a block that is known. -/
theorem new2B (v : Bool) {p p' : P} (hh : p.hok = true) (hs : p.size ≤ 1000) (hh' : p'.hok = true) (hs' : p'.size ≤ 1000) {W : World} {g cap : Nat} {a a' : ByteArray} {q q' : Option Addr} {n m n' m' : Nat} (hb : W.heap[g]? = some (.cells #[.string a, .slice q n m, .string a', .slice q' n' m'] 29 (0, 0))) (ht : LT W p.tree a q n m) (ht' : LT W p'.tree a' q' n' m') :
    Calls Tryz.prog 21 #[.bool v, .slice (some ⟨g, 0, none⟩) 2 cap] W fun e w' => e = .returned (.agg #[.string (bs' (newOf v [p, p'])), .slice none 0 0]) ∧ Below W.heap.size W w' :=
  new_any v [p, p'] (fun x hx => by simp at hx; rcases hx with rfl | rfl; exact ⟨hh, hs⟩; exact ⟨hh', hs'⟩) (by simp) (by simp) W g cap [.string a, .slice q n m, .string a', .slice q' n' m'] ⟨_, _, _, _, _, rfl, ht, _, _, _, _, _, rfl, ht', rfl⟩ (fun j u hu => block_cells hb j u hu) (blk_lt hb)

/-- l1List of two trees in a block that is known. -/
theorem l2B (h : Bs) (hh : h ≠ []) (x y : T) {W : World} {g cap : Nat} {u1 u2 : ByteArray} {v1 v2 : Option Addr} {m1 d1 m2 d2 : Nat} (hb : W.heap[g]? = some (.cells #[.string u1, .slice v1 m1 d1, .string u2, .slice v2 m2 d2] 29 (0, 0))) (t1 : LT W x u1 v1 m1 d1) (t2 : LT W y u2 v2 m2 d2) :
    Calls Tryz.prog 20 #[.string ⟨h.toArray⟩, .slice (some ⟨g, 0, none⟩) 2 cap] W (TRet (.node [.atom h, x, y]) W) := by
  refine Calls.mono (l2G (lo := 0) (hi := 0) h hh x y hb (Nat.zero_le _) (LT.allx t1) (LT.allx t2)) ?_
  rintro e w' ⟨a, p, n, c, he, ht, hb⟩
  exact ⟨a, p, n, c, he, LTX.all ht, hb⟩
theorem l1B (h : Bs) (hh : h ≠ []) (x : T) {W : World} {g cap : Nat} {u1 : ByteArray} {v1 : Option Addr} {m1 d1 : Nat} (hb : W.heap[g]? = some (.cells #[.string u1, .slice v1 m1 d1] 29 (0, 0))) (t1 : LT W x u1 v1 m1 d1) :
    Calls Tryz.prog 20 #[.string ⟨h.toArray⟩, .slice (some ⟨g, 0, none⟩) 1 cap] W (TRet (.node [.atom h, x]) W) := by
  refine Calls.mono (l1G (lo := 0) (hi := 0) h hh x hb (Nat.zero_le _) (LT.allx t1)) ?_
  rintro e w' ⟨a, p, n, c, he, ht, hb⟩
  exact ⟨a, p, n, c, he, LTX.all ht, hb⟩

set_option maxHeartbeats 4000000 in
theorem specChoice (s t : ByteArray) (w : World) : Calls Tryz.prog 8 #[.string s, .string t] w (WPost (chO (readS s.data.toList) (readS t.data.toList)) w) := by
  have hO := Lib.hid (show ∀ o r, readP s.data.toList = o → readP t.data.toList = r → (∀ p q, o = some p → r = some q → ¬ (p.kind = .s ∧ q.kind = .s)) → chO (readS s.data.toList) (readS t.data.toList) = none from fun o r h1 h2 h => by
    unfold readS; rw [h1, h2]
    cases o with
    | none => rfl
    | some p =>
      cases r with
      | none => exact chO_none2 _
      | some q =>
        simp only
        by_cases k1 : p.kind = .s
        · by_cases k2 : q.kind = .s
          · exact absurd ⟨k1, k2⟩ (h p q rfl rfl)
          · rw [if_neg k2]; exact chO_none2 _
        · rw [if_neg k1]; rfl)
  have hO2 := Lib.hid (show ∀ p q, readP s.data.toList = some p → readP t.data.toList = some q → p.kind = .s → q.kind = .s → chO (readS s.data.toList) (readS t.data.toList) = some (chC p q) ∧ Stm p ∧ Stm q from fun p q h1 h2 k1 k2 => by
    have e1 : readS s.data.toList = some p := by unfold readS; rw [h1]; simp only; rw [if_pos k1]
    have e2 : readS t.data.toList = some q := by unfold readS; rw [h2]; simp only; rw [if_pos k2]
    rw [e1, e2]
    exact ⟨rfl, (readS_stm e1).1, (readS_stm e2).1⟩)
  generalize chO (readS s.data.toList) (readS t.data.toList) = z at *
  have hnone : Hid (∀ W, Below w.heap.size w W → z = none → WPost z w (.returned (.tuple #[.string ⟨#[]⟩, .bool false])) W) := fun W h e => by subst e; exact ⟨rfl, h⟩
  go_enter Tryz.func8, Tryz.ntmps8
  go_wp2_with fail
  refine Calls.mono (l2Read_any s _) ?_
  rintro e w1 ⟨hb1, hp⟩
  have hb1' := Lib.hid hb1
  clear hb1
  rcases hp with ⟨p, a, A, n, c, hrd, rfl, htc⟩ | ⟨a, A, n, c, hrd, rfl⟩
  · have hrd' := Lib.hid hrd
    have htc' := Lib.hid htc
    clear htc hrd
    go_wp2_with fail
    refine Calls.mono (l2Read_any t _) ?_
    rintro e w2 ⟨hb2, hp⟩
    have hb2' := Lib.hid hb2
    clear hb2
    have hbA : Hid (Below w.heap.size w (w1.alloc (.cells #[.string a, .slice A n c] 29))) := Lib.hid (bb_alloc hb1'.out _)
    have hbB : Hid (Below w.heap.size w w2) := Lib.hid (below_step hbA.out (Nat.le_refl _) hb2'.out)
    rcases hp with ⟨q, b, B, m, d, hrd, rfl, htd⟩ | ⟨b, B, m, d, hrd, rfl⟩
    · have hrdq := Lib.hid hrd
      have htd' := Lib.hid htd
      clear htd hrd
      by_cases hkk : p.kind = .s ∧ q.kind = .s
      · obtain ⟨hz, sp, sq⟩ := hO2.out p q hrd'.out hrdq.out hkk.1 hkk.2
        rw [hkk.1, hkk.2, show K.s.let = [115] from rfl]
        have h12 : Below w1.heap.size w1 w2 := below_step (bb_alloc (Below.refl _ _) _) (Nat.le_refl _) hb2'.out
        have htp : LT w2 p.tree a A n c := LT.to (TC.keep (fun _ _ => rfl) (fun g hg => hg.2) _ _ _ _ _ htc'.out) h12
        have htq : LT w2 q.tree b B m d := TC.keep (fun _ _ => rfl) (fun g hg => hg.2) _ _ _ _ _ htd'.out
        have hbk1 := (hb2'.out.block w1.heap.size (by simp)).trans (heap_alloc_new w1 _)
        have hz12 : w1.heap.size < w2.heap.size := by have := hb2'.out.size; simp at this; omega
        have hp5 := sp.sz
        have hq5 := sq.sz
        have h1 := P.ok_hok sp.ok
        have h2 := P.ok_hok sq.ok
        have m1 := P.nok_ok sp.ok
        have m2 := P.nok_ok sq.ok
        have hc : isMu [99, 117, 116] = false := by decide
        have l1 : (chP (newOf false [p, q]) (newOf true [p, q]) p q).hok = true := by simp [chP, P.hok, h1, h2, hc, cutB]
        have l2 : (chP (newOf false [p, q]) (newOf true [p, q]) p q).nok = true := chP_nok (newOf_nm _ _ (by simp [szL]; omega)) (newOf_nm _ _ (by simp [szL]; omega)) m1 m2
        have l3 : (chP (newOf false [p, q]) (newOf true [p, q]) p q).size ≤ 3000 := by rw [chP_size]; omega
        have hcn : (chP (newOf false [p, q]) (newOf true [p, q]) p q).canon = chC p q := by
          rw [chC_both]
          have e : ∀ v, newOf v [p, q] = nw v (p.uses ++ q.uses) := fun v => by simp [newOf, nw]
          rw [e, e]
        have hcan := Lib.hid (fun W (u : ByteArray) v n2 c2 (h : LT W (chP (newOf false [p, q]) (newOf true [p, q]) p q).tree u v n2 c2) => canonL l1 l2 l3 h)
        rw [hcn] at hcan
        have htr : (chP (newOf false [p, q]) (newOf true [p, q]) p q).tree = .node [.atom cutB, .node [.atom muB, .atom (newOf false [p, q]), p.tree], .node [.atom tmuB, .atom (newOf true [p, q]), q.tree]] := by
          rw [chP, P.tree, P.tree, P.tree, bhead_new, bhead_new]; rfl
        rw [htr] at hcan
        have hneA := newOf_ne false [p, q]
        have hneX := newOf_ne true [p, q]
        have hN := fun v (W : World) (g : Nat) (hb : W.heap[g]? = some (.cells #[.string a, .slice A n c, .string b, .slice B m d] 29 (0, 0))) (hW : Below w2.heap.size w2 W) => new2B (cap := 2) v h1 (by omega) h2 (by omega) hb (LT.to htp hW) (LT.to htq hW)
        have hNF := Lib.hid (hN false)
        have hNT := Lib.hid (hN true)
        generalize newOf false [p, q] = x at *
        generalize newOf true [p, q] = y at *
        have hZ : Hid (∀ W, Below w.heap.size w W → WPost z w (.returned (.tuple #[str (writeT (chC p q)), .bool (writeB (chC p q))])) W) := fun W h => by rw [hz]; exact ⟨rfl, h⟩
        have htp' := Lib.hid htp
        have htq' := Lib.hid htq
        have hb4 : Below w2.heap.size w2 (w2.alloc (.cells #[.string b, .slice B m d] 29)) := bb_alloc (Below.refl _ _) _
        have hb24 := Lib.hid hb4
        have hS : Hid (∀ W', Below (w2.alloc (.cells #[.string b, .slice B m d] 29)).heap.size (w2.alloc (.cells #[.string b, .slice B m d] 29)) W' → W'.cell? ⟨w1.heap.size, 0, none⟩ = some (.string a) ∧ W'.cell? ⟨w1.heap.size, 1, none⟩ = some (.slice A n c) ∧ W'.cell? ⟨w2.heap.size, 0, none⟩ = some (.string b) ∧ W'.cell? ⟨w2.heap.size, 1, none⟩ = some (.slice B m d)) := fun W' h => by
          have hb := (h.block w2.heap.size (by simp)).trans (heap_alloc_new w2 _)
          have hc := (h.block w1.heap.size (by simp; omega)).trans ((hb4.block w1.heap.size hz12).trans hbk1)
          exact ⟨block_cells hc 0 _ rfl, block_cells hc 1 _ rfl, block_cells hb 0 _ rfl, block_cells hb 1 _ rfl⟩
        clear hbk1 l1 l2 l3 hcn htr hN h1 h2 m1 m2 hc sp sq hkk hO hO2 htp htq h12 hb4 hrd' hrdq htc' htd' hnone hz
        go_wp2_with fail
        have hw4 : ∀ w4, w4 = w2.alloc (.cells #[.string b, .slice B m d] 29) → True := fun _ _ => trivial
        generalize w2.alloc (.cells #[.string b, .slice B m d] 29) = w4 at *
        clear hw4
        have hNF4 : Hid (∀ {W : World} {g : Nat}, W.heap[g]? = some (.cells #[.string a, .slice A n c, .string b, .slice B m d] 29 (0, 0)) → Below w4.heap.size w4 W → Calls Tryz.prog 21 #[.bool false, .slice (some ⟨g, 0, none⟩) 2 2] W (fun e w' => e = .returned (.agg #[.string (bs' x), .slice none 0 0]) ∧ Below W.heap.size W w')) := fun h hW => hNF.out _ _ h (below_step hb24.out (Nat.le_refl _) hW)
        have hNT4 : Hid (∀ {W : World} {g : Nat}, W.heap[g]? = some (.cells #[.string a, .slice A n c, .string b, .slice B m d] 29 (0, 0)) → Below w4.heap.size w4 W → Calls Tryz.prog 21 #[.bool true, .slice (some ⟨g, 0, none⟩) 2 2] W (fun e w' => e = .returned (.agg #[.string (bs' y), .slice none 0 0]) ∧ Below W.heap.size W w')) := fun h hW => hNT.out _ _ h (below_step hb24.out (Nat.le_refl _) hW)
        have hmu : Hid (∀ {W : World} {g : Nat}, W.heap[g]? = some (.cells #[.string (bs' x), .slice none 0 0, .string a, .slice A n c] 29 (0, 0)) → Below w4.heap.size w4 W → Calls Tryz.prog 20 #[.string ⟨#[109, 117]⟩, .slice (some ⟨g, 0, none⟩) 2 2] W (TRet (.node [.atom muB, .atom x, p.tree]) W)) := fun h hW => l2B muB (by decide) (.atom x) p.tree h (lt_atom _ hneA) (LT.to htp'.out (below_step hb24.out (Nat.le_refl _) hW))
        have htm : Hid (∀ {W : World} {g : Nat}, W.heap[g]? = some (.cells #[.string (bs' y), .slice none 0 0, .string b, .slice B m d] 29 (0, 0)) → Below w4.heap.size w4 W → Calls Tryz.prog 20 #[.string ⟨#[116, 109, 117]⟩, .slice (some ⟨g, 0, none⟩) 2 2] W (TRet (.node [.atom tmuB, .atom y, q.tree]) W)) := fun h hW => l2B tmuB (by decide) (.atom y) q.tree h (lt_atom _ hneX) (LT.to htq'.out (below_step hb24.out (Nat.le_refl _) hW))
        have hcu : Hid (∀ {W : World} {g : Nat} {t1 t2 : T} {u1 u2 : ByteArray} {v1 v2 : Option Addr} {m1 d1 m2 d2 : Nat}, W.heap[g]? = some (.cells #[.string u1, .slice v1 m1 d1, .string u2, .slice v2 m2 d2] 29 (0, 0)) → LT W t1 u1 v1 m1 d1 → LT W t2 u2 v2 m2 d2 → Calls Tryz.prog 20 #[.string ⟨#[99, 117, 116]⟩, .slice (some ⟨g, 0, none⟩) 2 2] W (TRet (.node [.atom cutB, t1, t2]) W)) := fun h h1 h2 => l2B cutB (by decide) _ _ h h1 h2
        clear hNF hNT hneA hneX htp' htq'
        go_region_held3 (fun w' => w'.cell? ⟨w1.heap.size, 0, none⟩ = some (.string a) ∧ w'.cell? ⟨w1.heap.size, 1, none⟩ = some (.slice A n c) ∧ w'.cell? ⟨w2.heap.size, 0, none⟩ = some (.string b) ∧ w'.cell? ⟨w2.heap.size, 1, none⟩ = some (.slice B m d))
          (exact hS.out _ (by repeat (with_reducible first | exact Below.refl _ _ | refine Below.drew ?_ | refine bb_alloc ?_ _ | refine below_step ?_ (Nat.le_refl _) hb1 | refine below_step ?_ (Nat.le_refl _) hb2 | refine below_step ?_ (Nat.le_refl _) hb3 | refine below_step ?_ (Nat.le_refl _) hb4 | refine below_step ?_ (Nat.le_refl _) hb5 | refine below_step ?_ (Nat.le_refl _) hb6 | refine below_step ?_ (Nat.le_refl _) hb7 | refine below_step ?_ (Nat.le_refl _) hb8 | refine below_step ?_ (Nat.le_refl _) hb9)))
          (first
            | (go_at_call 19; refine Calls.mono (hcan.out _ _ _ _ _ t5) ?_; rintro e w10 ⟨rfl, hb6⟩)
            | (go_at_call 20; have hx := hb4; (with_reducible refine Calls.mono (hcu.out ?_ (LT.to t2 ?_) (LT.to t4 ?_)) ?_); (focus (repeat (first | ((with_reducible refine blk_new ?_); focus (first | rfl | (simp; done) | (simp; omega))) | (with_reducible refine blk_drew ?_) | ((with_reducible refine blk_old ?_ ?_); (focus (first | (simp; done) | (simp; omega) | omega))) | ((with_reducible refine blk_call hb1 ?_ ?_); (focus (first | (simp; done) | (simp; omega) | omega))) | ((with_reducible refine blk_call hb2 ?_ ?_); (focus (first | (simp; done) | (simp; omega) | omega))) | ((with_reducible refine blk_call hb3 ?_ ?_); (focus (first | (simp; done) | (simp; omega) | omega))) | ((with_reducible refine blk_call hb4 ?_ ?_); (focus (first | (simp; done) | (simp; omega) | omega))) | ((with_reducible refine blk_call hb5 ?_ ?_); (focus (first | (simp; done) | (simp; omega) | omega))) | ((with_reducible refine blk_call hb6 ?_ ?_); (focus (first | (simp; done) | (simp; omega) | omega))) | ((with_reducible refine blk_call hb7 ?_ ?_); (focus (first | (simp; done) | (simp; omega) | omega)))))); exact (by repeat (with_reducible first | exact Below.refl _ _ | refine Below.drew ?_ | refine bb_alloc ?_ _ | refine below_step ?_ (Nat.le_refl _) hb1 | refine below_step ?_ (Nat.le_refl _) hb2 | refine below_step ?_ (Nat.le_refl _) hb3 | refine below_step ?_ (Nat.le_refl _) hb4 | refine below_step ?_ (Nat.le_refl _) hb5 | refine below_step ?_ (Nat.le_refl _) hb6 | refine below_step ?_ (Nat.le_refl _) hb7 | refine below_step ?_ (Nat.le_refl _) hb8 | refine below_step ?_ (Nat.le_refl _) hb9)); exact (by repeat (with_reducible first | exact Below.refl _ _ | refine Below.drew ?_ | refine bb_alloc ?_ _ | refine below_step ?_ (Nat.le_refl _) hb1 | refine below_step ?_ (Nat.le_refl _) hb2 | refine below_step ?_ (Nat.le_refl _) hb3 | refine below_step ?_ (Nat.le_refl _) hb4 | refine below_step ?_ (Nat.le_refl _) hb5 | refine below_step ?_ (Nat.le_refl _) hb6 | refine below_step ?_ (Nat.le_refl _) hb7 | refine below_step ?_ (Nat.le_refl _) hb8 | refine below_step ?_ (Nat.le_refl _) hb9)); rintro e w9 ⟨u5, v5, n5, c5, rfl, t5, hb5⟩; have hs5 := hb5.size; (try simp at hs5))
            | (go_at_call 20; have hx := hb3; (with_reducible refine Calls.mono (htm.out ?_ ?_) ?_); (focus (repeat (first | ((with_reducible refine blk_new ?_); focus (first | rfl | (simp; done) | (simp; omega))) | (with_reducible refine blk_drew ?_) | ((with_reducible refine blk_old ?_ ?_); (focus (first | (simp; done) | (simp; omega) | omega))) | ((with_reducible refine blk_call hb1 ?_ ?_); (focus (first | (simp; done) | (simp; omega) | omega))) | ((with_reducible refine blk_call hb2 ?_ ?_); (focus (first | (simp; done) | (simp; omega) | omega))) | ((with_reducible refine blk_call hb3 ?_ ?_); (focus (first | (simp; done) | (simp; omega) | omega))) | ((with_reducible refine blk_call hb4 ?_ ?_); (focus (first | (simp; done) | (simp; omega) | omega))) | ((with_reducible refine blk_call hb5 ?_ ?_); (focus (first | (simp; done) | (simp; omega) | omega))) | ((with_reducible refine blk_call hb6 ?_ ?_); (focus (first | (simp; done) | (simp; omega) | omega))) | ((with_reducible refine blk_call hb7 ?_ ?_); (focus (first | (simp; done) | (simp; omega) | omega)))))); exact (by repeat (with_reducible first | exact Below.refl _ _ | refine Below.drew ?_ | refine bb_alloc ?_ _ | refine below_step ?_ (Nat.le_refl _) hb1 | refine below_step ?_ (Nat.le_refl _) hb2 | refine below_step ?_ (Nat.le_refl _) hb3 | refine below_step ?_ (Nat.le_refl _) hb4 | refine below_step ?_ (Nat.le_refl _) hb5 | refine below_step ?_ (Nat.le_refl _) hb6 | refine below_step ?_ (Nat.le_refl _) hb7 | refine below_step ?_ (Nat.le_refl _) hb8 | refine below_step ?_ (Nat.le_refl _) hb9)); rintro e w8 ⟨u4, v4, n4, c4, rfl, t4, hb4⟩; have hs4 := hb4.size; (try simp at hs4))
            | (go_at_call 21; have hx := hb2; (with_reducible refine Calls.mono (hNT4.out ?_ ?_) ?_); (focus (repeat (first | ((with_reducible refine blk_new ?_); focus (first | rfl | (simp; done) | (simp; omega))) | (with_reducible refine blk_drew ?_) | ((with_reducible refine blk_old ?_ ?_); (focus (first | (simp; done) | (simp; omega) | omega))) | ((with_reducible refine blk_call hb1 ?_ ?_); (focus (first | (simp; done) | (simp; omega) | omega))) | ((with_reducible refine blk_call hb2 ?_ ?_); (focus (first | (simp; done) | (simp; omega) | omega))) | ((with_reducible refine blk_call hb3 ?_ ?_); (focus (first | (simp; done) | (simp; omega) | omega))) | ((with_reducible refine blk_call hb4 ?_ ?_); (focus (first | (simp; done) | (simp; omega) | omega))) | ((with_reducible refine blk_call hb5 ?_ ?_); (focus (first | (simp; done) | (simp; omega) | omega))) | ((with_reducible refine blk_call hb6 ?_ ?_); (focus (first | (simp; done) | (simp; omega) | omega))) | ((with_reducible refine blk_call hb7 ?_ ?_); (focus (first | (simp; done) | (simp; omega) | omega)))))); exact (by repeat (with_reducible first | exact Below.refl _ _ | refine Below.drew ?_ | refine bb_alloc ?_ _ | refine below_step ?_ (Nat.le_refl _) hb1 | refine below_step ?_ (Nat.le_refl _) hb2 | refine below_step ?_ (Nat.le_refl _) hb3 | refine below_step ?_ (Nat.le_refl _) hb4 | refine below_step ?_ (Nat.le_refl _) hb5 | refine below_step ?_ (Nat.le_refl _) hb6 | refine below_step ?_ (Nat.le_refl _) hb7 | refine below_step ?_ (Nat.le_refl _) hb8 | refine below_step ?_ (Nat.le_refl _) hb9)); rintro e w7 ⟨rfl, hb3⟩; have hs3 := hb3.size; (try simp at hs3))
            | (go_at_call 20; have hx := hb1; (with_reducible refine Calls.mono (hmu.out ?_ ?_) ?_); (focus (repeat (first | ((with_reducible refine blk_new ?_); focus (first | rfl | (simp; done) | (simp; omega))) | (with_reducible refine blk_drew ?_) | ((with_reducible refine blk_old ?_ ?_); (focus (first | (simp; done) | (simp; omega) | omega))) | ((with_reducible refine blk_call hb1 ?_ ?_); (focus (first | (simp; done) | (simp; omega) | omega))) | ((with_reducible refine blk_call hb2 ?_ ?_); (focus (first | (simp; done) | (simp; omega) | omega))) | ((with_reducible refine blk_call hb3 ?_ ?_); (focus (first | (simp; done) | (simp; omega) | omega))) | ((with_reducible refine blk_call hb4 ?_ ?_); (focus (first | (simp; done) | (simp; omega) | omega))) | ((with_reducible refine blk_call hb5 ?_ ?_); (focus (first | (simp; done) | (simp; omega) | omega))) | ((with_reducible refine blk_call hb6 ?_ ?_); (focus (first | (simp; done) | (simp; omega) | omega))) | ((with_reducible refine blk_call hb7 ?_ ?_); (focus (first | (simp; done) | (simp; omega) | omega)))))); exact (by repeat (with_reducible first | exact Below.refl _ _ | refine Below.drew ?_ | refine bb_alloc ?_ _ | refine below_step ?_ (Nat.le_refl _) hb1 | refine below_step ?_ (Nat.le_refl _) hb2 | refine below_step ?_ (Nat.le_refl _) hb3 | refine below_step ?_ (Nat.le_refl _) hb4 | refine below_step ?_ (Nat.le_refl _) hb5 | refine below_step ?_ (Nat.le_refl _) hb6 | refine below_step ?_ (Nat.le_refl _) hb7 | refine below_step ?_ (Nat.le_refl _) hb8 | refine below_step ?_ (Nat.le_refl _) hb9)); rintro e w6 ⟨u2, v2, n2, c2, rfl, t2, hb2⟩; have hs2 := hb2.size; (try simp at hs2))
            | (go_at_call 21; refine Calls.mono (hNF4.out ?_ ?_) ?_; (focus (repeat (first | ((with_reducible refine blk_new ?_); focus (first | rfl | (simp; done) | (simp; omega))) | (with_reducible refine blk_drew ?_) | ((with_reducible refine blk_old ?_ ?_); (focus (first | (simp; done) | (simp; omega) | omega))) | ((with_reducible refine blk_call hb1 ?_ ?_); (focus (first | (simp; done) | (simp; omega) | omega))) | ((with_reducible refine blk_call hb2 ?_ ?_); (focus (first | (simp; done) | (simp; omega) | omega))) | ((with_reducible refine blk_call hb3 ?_ ?_); (focus (first | (simp; done) | (simp; omega) | omega))) | ((with_reducible refine blk_call hb4 ?_ ?_); (focus (first | (simp; done) | (simp; omega) | omega))) | ((with_reducible refine blk_call hb5 ?_ ?_); (focus (first | (simp; done) | (simp; omega) | omega))) | ((with_reducible refine blk_call hb6 ?_ ?_); (focus (first | (simp; done) | (simp; omega) | omega))) | ((with_reducible refine blk_call hb7 ?_ ?_); (focus (first | (simp; done) | (simp; omega) | omega)))))); exact (by repeat (with_reducible first | exact Below.refl _ _ | refine Below.drew ?_ | refine bb_alloc ?_ _ | refine below_step ?_ (Nat.le_refl _) hb1 | refine below_step ?_ (Nat.le_refl _) hb2 | refine below_step ?_ (Nat.le_refl _) hb3 | refine below_step ?_ (Nat.le_refl _) hb4 | refine below_step ?_ (Nat.le_refl _) hb5 | refine below_step ?_ (Nat.le_refl _) hb6 | refine below_step ?_ (Nat.le_refl _) hb7 | refine below_step ?_ (Nat.le_refl _) hb8 | refine below_step ?_ (Nat.le_refl _) hb9)); rintro e w5 ⟨rfl, hb1⟩; have hs1 := hb1.size; (try simp at hs1)))
        all_goals
          go_wp2_with fail
          go_ret2
          exact hZ.out _ (below_step (below_step hbB.out (Nat.le_refl _) hb24.out) (Nat.le_refl _) (show Below w4.heap.size w4 _ from (by repeat (with_reducible first | exact Below.refl _ _ | refine Below.drew ?_ | refine bb_alloc ?_ _ | refine below_step ?_ (Nat.le_refl _) hb1 | refine below_step ?_ (Nat.le_refl _) hb2 | refine below_step ?_ (Nat.le_refl _) hb3 | refine below_step ?_ (Nat.le_refl _) hb4 | refine below_step ?_ (Nat.le_refl _) hb5 | refine below_step ?_ (Nat.le_refl _) hb6 | refine below_step ?_ (Nat.le_refl _) hb7 | refine below_step ?_ (Nat.le_refl _) hb8 | refine below_step ?_ (Nat.le_refl _) hb9))))
      · have hfin := Lib.hid (hO.out _ _ hrd'.out hrdq.out (fun p' q' e1 e2 => by injection e1 with e1; injection e2 with e2; subst e1; subst e2; exact hkk))
        clear hrd' hrdq htc' htd' hO hO2
        have hkk' : ∀ k l, p.kind = k → q.kind = l → k = .s → l = .s → False := fun k l e1 e2 e3 e4 => hkk ⟨e1.trans e3, e2.trans e4⟩
        cases hk : p.kind <;> cases hq : q.kind <;> first | exact (hkk' _ _ hk hq rfl rfl).elim | skip
        all_goals
          simp only [K.let]
          clear hk hq hkk hkk'
          go_wp2_with fail
          go_ret2
          exact hnone.out _ (bb_alloc hbB.out _) hfin.out
    · have hfin := Lib.hid (hO.out _ _ hrd'.out hrd (fun p' q' e1 e2 => by cases e2))
      clear hrd hrd' htc' hO hO2
      cases p.kind <;> simp only [K.let]
      all_goals
        go_wp2_with fail
        go_ret2
        exact hnone.out _ (bb_alloc hbB.out _) hfin.out
  · have hrd' := Lib.hid hrd
    clear hrd
    go_wp2_with fail
    refine Calls.mono (l2Read_any t _) ?_
    rintro e w2 ⟨hb2, hp⟩
    have hb2' := Lib.hid hb2
    clear hb2
    have hbA : Hid (Below w.heap.size w (w1.alloc (.cells #[.string a, .slice A n c] 29))) := Lib.hid (bb_alloc hb1'.out _)
    have hbB : Hid (Below w.heap.size w w2) := Lib.hid (below_step hbA.out (Nat.le_refl _) hb2'.out)
    rcases hp with ⟨q, b, B, m, d, hrd, rfl, htd⟩ | ⟨b, B, m, d, hrd, rfl⟩
    · have hfin := Lib.hid (hO.out _ _ hrd'.out hrd (fun p' q' e1 e2 => by cases e1))
      clear htd hrd hrd' hO hO2
      cases q.kind <;> simp only [K.let]
      all_goals
        go_wp2_with fail
        go_ret2
        exact hnone.out _ (bb_alloc hbB.out _) hfin.out
    · have hfin := Lib.hid (hO.out _ _ hrd'.out hrd (fun p' q' e1 e2 => by cases e1))
      clear hrd hrd' hO hO2
      go_wp2_with fail
      go_ret2
      exact hnone.out _ (bb_alloc hbB.out _) hfin.out

end Go.Proofs.YtaagbnbekfogiaaGreatDoor
