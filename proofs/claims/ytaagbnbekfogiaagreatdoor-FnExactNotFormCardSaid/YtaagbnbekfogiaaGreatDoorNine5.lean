/- The model's long, pair, case and not forms, and its choice. LongForm of the model. NotForm of the model. -/
import Derived.Test.YtaagbnbekfogiaaGreatDoorNine2
namespace Go.Proofs.YtaagbnbekfogiaaGreatDoor
set_option linter.unusedVariables false
open Go.RowKit
set_option maxRecDepth 100000

/-- A tree that stands in the blocks below lo and in those from hi on. -/
abbrev LTX (lo hi : Nat) (w : World) (t : T) (a : ByteArray) (p : Option Addr) (n c : Nat) : Prop := TC w (fun g => (g < lo ∨ hi ≤ g) ∧ g < w.heap.size) t a p n c
def TRX (lo hi : Nat) (t : T) (w : World) (e : Ending) (w' : World) : Prop := ∃ a p n c, e = .returned (.agg #[.string a, .slice p n c]) ∧ LTX lo hi w' t a p n c ∧ Below w.heap.size w w'
theorem ltx_atom {lo hi : Nat} (w : World) {s : Bs} (hs : s ≠ []) : LTX lo hi w (.atom s) (bs' s) none 0 0 := ⟨hs, rfl, rfl, rfl, rfl⟩
theorem LTX.to {lo hi : Nat} {w1 w2 : World} {t : T} {a : ByteArray} {p : Option Addr} {n c : Nat} (h : LTX lo hi w1 t a p n c) (hb : Below w1.heap.size w1 w2) : LTX lo hi w2 t a p n c :=
  TC.keep (fun g hg => hb.block g hg.2) (fun g hg => ⟨hg.1, Nat.lt_of_lt_of_le hg.2 hb.size⟩) _ _ _ _ _ h
theorem LT.x {lo hi : Nat} {W w : World} {t : T} {a : ByteArray} {p : Option Addr} {n c : Nat} (h : LT W t a p n c) (hlo : W.heap.size = lo) (hb : Below W.heap.size W w) : LTX lo hi w t a p n c :=
  TC.keep (fun g hg => hb.block g hg) (fun g hg => ⟨.inl (by have h1 : g < W.heap.size := hg; omega), Nat.lt_of_lt_of_le hg hb.size⟩) _ _ _ _ _ h
theorem LTX.fin {lo hi : Nat} {W w : World} {u v : Value} {b : Nat} {t : T} {a : ByteArray} {p : Option Addr} {n c : Nat} (h : LTX lo hi w t a p n c) (h1 : lo ≤ b) (h2 : b < hi) : LT ((w.setCell ⟨b, 0, none⟩ u).setCell ⟨b, 1, none⟩ v) t a p n c :=
  TC.keep (fun g hg => same_set _ _ _ _ _ (by rcases hg.1 with h | h <;> omega)) (fun g hg => by have := hg.2; simp [World.setCell]; exact this) _ _ _ _ _ h

theorem l2G {lo hi : Nat} (h : Bs) (hh : h ≠ []) (x y : T) {W : World} {g cap : Nat} {u1 u2 : ByteArray} {v1 v2 : Option Addr} {m1 d1 m2 d2 : Nat} (hb : W.heap[g]? = some (.cells #[.string u1, .slice v1 m1 d1, .string u2, .slice v2 m2 d2] 29 (0, 0))) (hw : hi ≤ W.heap.size) (t1 : LTX lo hi W x u1 v1 m1 d1) (t2 : LTX lo hi W y u2 v2 m2 d2) :
    Calls Tryz.prog 20 #[.string ⟨h.toArray⟩, .slice (some ⟨g, 0, none⟩) 2 cap] W (TRX lo hi (.node [.atom h, x, y]) W) := by
  have hg : g < W.heap.size := by
    rcases Nat.lt_or_ge g W.heap.size with h1 | h1
    · exact h1
    · rw [Array.getElem?_eq_none h1] at hb; cases hb
  refine Calls.mono (l1List_any h hh [x, y] [.string u1, .slice v1 m1 d1, .string u2, .slice v2 m2 d2] g cap W (fun g => (g < lo ∨ hi ≤ g) ∧ g < W.heap.size) ⟨_, _, _, _, _, rfl, t1, _, _, _, _, _, rfl, t2, rfl⟩ (fun j u hu => block_cells hb j u hu) (fun _ h => h.2) hg (by simp) (by simp)) ?_
  rintro e w' ⟨a, p, n, c, rfl, htc, hb⟩
  refine ⟨a, p, n, c, rfl, TC.keep (fun _ _ => rfl) (fun g hg => ?_) _ _ _ _ _ htc, hb⟩
  rcases hg with hg | hg
  · exact ⟨hg.1, Nat.lt_of_lt_of_le hg.2 hb.size⟩
  · exact ⟨.inr (Nat.le_trans hw hg.1), hg.2⟩
theorem l1G {lo hi : Nat} (h : Bs) (hh : h ≠ []) (x : T) {W : World} {g cap : Nat} {u1 : ByteArray} {v1 : Option Addr} {m1 d1 : Nat} (hb : W.heap[g]? = some (.cells #[.string u1, .slice v1 m1 d1] 29 (0, 0))) (hw : hi ≤ W.heap.size) (t1 : LTX lo hi W x u1 v1 m1 d1) :
    Calls Tryz.prog 20 #[.string ⟨h.toArray⟩, .slice (some ⟨g, 0, none⟩) 1 cap] W (TRX lo hi (.node [.atom h, x]) W) := by
  have hg : g < W.heap.size := by
    rcases Nat.lt_or_ge g W.heap.size with h1 | h1
    · exact h1
    · rw [Array.getElem?_eq_none h1] at hb; cases hb
  refine Calls.mono (l1List_any h hh [x] [.string u1, .slice v1 m1 d1] g cap W (fun g => (g < lo ∨ hi ≤ g) ∧ g < W.heap.size) ⟨_, _, _, _, _, rfl, t1, rfl⟩ (fun j u hu => block_cells hb j u hu) (fun _ h => h.2) hg (by simp) (by simp)) ?_
  rintro e w' ⟨a, p, n, c, rfl, htc, hb⟩
  refine ⟨a, p, n, c, rfl, TC.keep (fun _ _ => rfl) (fun g hg => ?_) _ _ _ _ _ htc, hb⟩
  rcases hg with hg | hg
  · exact ⟨hg.1, Nat.lt_of_lt_of_le hg.2 hb.size⟩
  · exact ⟨.inr (Nat.le_trans hw hg.1), hg.2⟩

theorem new1 (v : Bool) {p : P} (hh : p.hok = true) (hs : p.size ≤ 1000) {W : World} {a : ByteArray} {q : Option Addr} {n m : Nat} (ht : LT W p.tree a q n m) :
    Calls Tryz.prog 21 #[.bool v, .slice (some ⟨W.heap.size, 0, none⟩) 1 1] (W.alloc (.cells #[.string a, .slice q n m] 29)) fun e w' => e = .returned (.agg #[.string (bs' (newOf v [p])), .slice none 0 0]) ∧ Below W.heap.size W w' := by
  have hb : Below W.heap.size W (W.alloc (.cells #[.string a, .slice q n m] 29)) := (Below.refl _ _).alloc (Nat.le_refl _) _
  refine Calls.mono (new_any v [p] (fun x hx => by rw [List.mem_singleton] at hx; subst hx; exact ⟨hh, hs⟩) (by simp) (by simp) _ W.heap.size 1 [.string a, .slice q n m] ⟨_, _, _, _, _, rfl, LT.to ht hb, rfl⟩ (fun j u hu => block_cells (heap_alloc_new _ _) j u hu) (by simp)) ?_
  rintro e w' ⟨rfl, hb2⟩
  exact ⟨rfl, below_step hb (by simp) hb2⟩
theorem new2 (v : Bool) {p p' : P} (hh : p.hok = true) (hs : p.size ≤ 1000) (hh' : p'.hok = true) (hs' : p'.size ≤ 1000) {W : World} {a a' : ByteArray} {q q' : Option Addr} {n m n' m' : Nat} (ht : LT W p.tree a q n m) (ht' : LT W p'.tree a' q' n' m') :
    Calls Tryz.prog 21 #[.bool v, .slice (some ⟨W.heap.size, 0, none⟩) 2 2] (W.alloc (.cells #[.string a, .slice q n m, .string a', .slice q' n' m'] 29)) fun e w' => e = .returned (.agg #[.string (bs' (newOf v [p, p'])), .slice none 0 0]) ∧ Below W.heap.size W w' := by
  have hb : Below W.heap.size W (W.alloc (.cells #[.string a, .slice q n m, .string a', .slice q' n' m'] 29)) := (Below.refl _ _).alloc (Nat.le_refl _) _
  refine Calls.mono (new_any v [p, p'] (fun x hx => by simp at hx; rcases hx with rfl | rfl; exact ⟨hh, hs⟩; exact ⟨hh', hs'⟩) (by simp) (by simp) _ W.heap.size 2 [.string a, .slice q n m, .string a', .slice q' n' m'] ⟨_, _, _, _, _, rfl, LT.to ht hb, _, _, _, _, _, rfl, LT.to ht' hb, rfl⟩ (fun j u hu => block_cells (heap_alloc_new _ _) j u hu) (by simp)) ?_
  rintro e w' ⟨rfl, hb2⟩
  exact ⟨rfl, below_step hb (by simp) hb2⟩

/-- The long form, not canonical. -/
def longP (p : P) : P := if p.kind = .t then .bd (newOf false [p]) (.f2 cutB p (.nm (newOf false [p]))) else .bd (newOf true [p]) (.f2 cutB (.nm (newOf true [p])) p)
theorem bhead_new (v : Bool) (ps : List P) : bhead (newOf v ps) = if v then tmuB else muB := bhead_cname _ _

set_option maxHeartbeats 2000000 in
theorem long_t {p : P} (hk : p.kind = .t) (hh : p.hok = true) (hs : p.size ≤ 1000) (W : World) (a : ByteArray) (q : Option Addr) (n m : Nat) (ht : LT W p.tree a q n m) :
    Calls Tryz.prog 28 #[.agg #[.string a, .slice q n m], .string ⟨#[116]⟩] W (TRet (longP p).tree W) := by
  have htr : (longP p).tree = .node [.atom muB, .atom (newOf false [p]), .node [.atom cutB, p.tree, .atom (newOf false [p])]] := by
    rw [longP, if_pos hk, P.tree, bhead_new, P.tree, P.tree]; rfl
  rw [htr]
  have hne := newOf_ne false [p]
  have hN := Lib.hid (fun W2 (h2 : Below W.heap.size W W2) => new1 false hh hs (LT.to ht h2))
  generalize newOf false [p] = x at *
  have ht' := Lib.hid ht
  clear htr ht
  have hW2 : ∀ W2, W2 = (W.alloc (.cells #[.string a, .slice q n m] 29)).alloc (.cells #[.string ⟨#[]⟩, .slice none 0 0] 29) → Below W.heap.size W W2 ∧ W2.heap.size = W.heap.size + 1 + 1 := by
    intro W2 h; subst h; exact ⟨bb_alloc (bb_alloc (Below.refl _ _) _) _, by simp⟩
  obtain ⟨hb2, hs2⟩ := hW2 _ rfl
  have hNc := hN.out _ hb2
  rw [hs2] at hNc
  have hbx := first_alloc W (.cells #[.string a, .slice q n m] 29) (.cells #[.string ⟨#[]⟩, .slice none 0 0] 29)
  have hrx := second_alloc W (.cells #[.string a, .slice q n m] 29) (.cells #[.string ⟨#[]⟩, .slice none 0 0] 29)
  have hNc' := Lib.hid hNc
  have hbx' := Lib.hid hbx
  have hrx' := Lib.hid hrx
  have hb2' := Lib.hid hb2
  have hs2' := Lib.hid hs2
  clear hW2 hNc hbx hrx hb2 hs2 hN
  go_enter Tryz.func28, Tryz.ntmps28
  go_wp2_with fail
  refine Calls.mono hNc'.out ?_
  rintro e w3 ⟨rfl, hb3⟩
  have s3 := hb3.size
  rw [hs2'.out] at s3
  have hb03 := Lib.hid (hb2'.out.trans (hb3.mono (by omega)))
  obtain ⟨z0, b0, b1, -, -⟩ := two_cells ((hb3.block W.heap.size (by omega)).trans hbx'.out)
  have hr3 := Lib.hid ((hb3.block (W.heap.size + 1) (by omega)).trans hrx'.out)
  have ht3 := Lib.hid (LT.to ht'.out hb03.out)
  clear hb3 hNc' hbx' hrx'
  go_wp2_with fail
  have hb4 : Below w3.heap.size w3 (w3.alloc (.cells #[.string (bs' x), .slice none 0 0] 29)) := bb_alloc (Below.refl _ _) _
  have hs4 : (w3.alloc (.cells #[.string (bs' x), .slice none 0 0] 29)).heap.size = w3.heap.size + 1 := by simp
  obtain ⟨-, d0, d1, -, -⟩ := two_cells (heap_alloc_new w3 (.cells #[.string (bs' x), .slice none 0 0] 29))
  generalize w3.alloc (.cells #[.string (bs' x), .slice none 0 0] 29) = w4 at *
  have k0 := (hb4.cell (p := ⟨W.heap.size, 0, none⟩) z0).trans b0
  have k1 := (hb4.cell (p := ⟨W.heap.size, 1, none⟩) z0).trans b1
  have hr4 := Lib.hid ((hb4.block (W.heap.size + 1) (by omega)).trans hr3.out)
  have hS : Hid (∀ w', Below w4.heap.size w4 w' → w'.cell? ⟨W.heap.size, 0, none⟩ = some (.string a) ∧ w'.cell? ⟨W.heap.size, 1, none⟩ = some (.slice q n m) ∧ w'.cell? ⟨w3.heap.size, 0, none⟩ = some (.string (bs' x)) ∧ w'.cell? ⟨w3.heap.size, 1, none⟩ = some (.slice none 0 0)) := fun w' h =>
    ⟨(h.cell (p := ⟨W.heap.size, 0, none⟩) (by show W.heap.size < _; omega)).trans k0, (h.cell (p := ⟨W.heap.size, 1, none⟩) (by show W.heap.size < _; omega)).trans k1, (h.cell (p := ⟨w3.heap.size, 0, none⟩) (by show w3.heap.size < _; omega)).trans d0, (h.cell (p := ⟨w3.heap.size, 1, none⟩) (by show w3.heap.size < _; omega)).trans d1⟩
  have hSs : Hid (∀ w' u v, Below w4.heap.size w4 w' → ((w'.setCell ⟨W.heap.size + 1, 0, none⟩ u).setCell ⟨W.heap.size + 1, 1, none⟩ v).cell? ⟨W.heap.size, 0, none⟩ = some (.string a) ∧ ((w'.setCell ⟨W.heap.size + 1, 0, none⟩ u).setCell ⟨W.heap.size + 1, 1, none⟩ v).cell? ⟨W.heap.size, 1, none⟩ = some (.slice q n m) ∧ ((w'.setCell ⟨W.heap.size + 1, 0, none⟩ u).setCell ⟨W.heap.size + 1, 1, none⟩ v).cell? ⟨w3.heap.size, 0, none⟩ = some (.string (bs' x)) ∧ ((w'.setCell ⟨W.heap.size + 1, 0, none⟩ u).setCell ⟨W.heap.size + 1, 1, none⟩ v).cell? ⟨w3.heap.size, 1, none⟩ = some (.slice none 0 0)) := fun w' u v h => by
    obtain ⟨e0, e1, e2, e3⟩ := hS.out w' h
    exact ⟨(keep_set ⟨e0, e1⟩ (by omega)).1, (keep_set ⟨e0, e1⟩ (by omega)).2, (keep_set ⟨e2, e3⟩ (by omega)).1, (keep_set ⟨e2, e3⟩ (by omega)).2⟩
  have hR : Hid (∀ w', Below w4.heap.size w4 w' → W.heap.size + 1 < w'.heap.size ∧ w'.cell? ⟨W.heap.size + 1, 0, none⟩ = some (.string ⟨#[]⟩) ∧ w'.cell? ⟨W.heap.size + 1, 1, none⟩ = some (.slice none 0 0) ∧ w'.frozen? ⟨W.heap.size + 1, 0, none⟩ = false ∧ w'.frozen? ⟨W.heap.size + 1, 1, none⟩ = false) := fun w' h => two_cells ((h.block _ (by omega)).trans hr4.out)
  have ht4 : Hid (LTX W.heap.size w4.heap.size w4 p.tree a q n m) := LT.x ht'.out rfl (hb03.out.trans (hb4.mono hb03.out.size))
  have hb04 := Lib.hid (hb03.out.trans (hb4.mono hb03.out.size))
  have hx1 : Hid (Below w4.heap.size w4 (w4.alloc (.cells #[.string a, .slice q n m, .string (bs' x), .slice none 0 0] 29)).drew) := (bb_alloc (Below.refl _ _) _).drew
  have hbk : Hid ((w4.alloc (.cells #[.string a, .slice q n m, .string (bs' x), .slice none 0 0] 29)).drew.heap[w4.heap.size]? = some (.cells #[.string a, .slice q n m, .string (bs' x), .slice none 0 0] 29 (0, 0))) := heap_alloc_new w4 _
  have hc1 : Hid (Calls Tryz.prog 20 #[.string ⟨#[99, 117, 116]⟩, .slice (some ⟨w4.heap.size, 0, none⟩) 2 2] (w4.alloc (.cells #[.string a, .slice q n m, .string (bs' x), .slice none 0 0] 29)).drew (TRX W.heap.size w4.heap.size (.node [.atom [99, 117, 116], p.tree, .atom x]) (w4.alloc (.cells #[.string a, .slice q n m, .string (bs' x), .slice none 0 0] 29)).drew)) := l2G [99, 117, 116] (by simp) p.tree (.atom x) hbk.out hx1.out.size (LTX.to ht4.out hx1.out) (ltx_atom _ hne)
  have hc2 : Hid (∀ (w5 : World) (u5 : ByteArray) (v5 : Option Addr) (n5 c5 : Nat), LTX W.heap.size w4.heap.size w5 (.node [.atom [99, 117, 116], p.tree, .atom x]) u5 v5 n5 c5 → w4.heap.size ≤ w5.heap.size → Calls Tryz.prog 20 #[.string ⟨#[109, 117]⟩, .slice (some ⟨w5.heap.size, 0, none⟩) 2 2] (w5.alloc (.cells #[.string (bs' x), .slice none 0 0, .string u5, .slice v5 n5 c5] 29)) (TRX W.heap.size w4.heap.size (.node [.atom [109, 117], .atom x, .node [.atom [99, 117, 116], p.tree, .atom x]]) (w5.alloc (.cells #[.string (bs' x), .slice none 0 0, .string u5, .slice v5 n5 c5] 29)))) := fun w5 u5 v5 n5 c5 t5 h5 => l2G [109, 117] (by simp) (.atom x) _ (heap_alloc_new w5 _) (Nat.le_trans h5 (by simp)) (ltx_atom _ hne) (LTX.to t5 (bb_alloc (Below.refl _ _) _))
  have hne' := Lib.hid hne
  have hs4' := Lib.hid hs4
  have s3' := Lib.hid s3
  clear b0 b1 hb4 d0 d1 hs4 s3
  go_region_held3 (fun w' => w'.cell? ⟨W.heap.size, 0, none⟩ = some (.string a) ∧ w'.cell? ⟨W.heap.size, 1, none⟩ = some (.slice q n m) ∧ w'.cell? ⟨w3.heap.size, 0, none⟩ = some (.string (bs' x)) ∧ w'.cell? ⟨w3.heap.size, 1, none⟩ = some (.slice none 0 0))
    (first | exact hS.out _ (Below.refl _ _).drew | exact hS.out _ hx1.out | exact hS.out _ hb5 | exact hS.out _ (bb_alloc hb5 _) | exact hS.out _ hb6 | exact hSs.out _ _ _ hb6)
    (first
      | (go_at_call 20; refine Calls.mono (hc2.out w5 u5 v5 n5 c5 t5 hb5.size) ?_; rintro e w6 ⟨u6, v6, n6, c6, rfl, t6, hb6'⟩; have hb6 := below_step (bb_alloc hb5 (.cells #[.string (bs' x), .slice none 0 0, .string u5, .slice v5 n5 c5] 29)) (Nat.le_refl _) hb6'; obtain ⟨e0, e1, e2, e3, e4⟩ := hR.out w6 hb6)
      | (go_at_call 20; refine Calls.mono hc1.out ?_; rintro e w5 ⟨u5, v5, n5, c5, rfl, t5, hb5'⟩; have hb5 := below_step hx1.out (Nat.le_refl _) hb5'))
  go_wp2_with fail
  refine bodyPost_ret (v := .agg #[.string u6, .slice v6 n6 c6]) (by simp [results, Tryz.results28, go_sem, e1, e2]) rfl ?_
  have hbel : Below W.heap.size W w6 := hb04.out.trans (hb6.mono hb04.out.size)
  have h34 := hs4'.out
  have h33 := s3'.out
  exact ⟨_, _, _, _, rfl, LTX.fin (W := W) t6 (by omega) (by omega), (by repeat (with_reducible first | exact hbel | exact Below.refl _ _ | refine Below.drew ?_ | refine Below.drewN ?_ _ | refine Below.alloc ?_ (by first | (simp; done) | (simp; omega) | omega | (have := Below.size hbel; simp; omega) | (have := Below.size hbel; omega)) _ | refine Below.setCell ?_ (by first | (simp; done) | (simp; omega) | omega) _))⟩

set_option maxHeartbeats 2000000 in
theorem long_c {p : P} (hk : p.kind = .c) (hh : p.hok = true) (hs : p.size ≤ 1000) (W : World) (a : ByteArray) (q : Option Addr) (n m : Nat) (ht : LT W p.tree a q n m) :
    Calls Tryz.prog 28 #[.agg #[.string a, .slice q n m], .string ⟨#[99]⟩] W (TRet (longP p).tree W) := by
  have htr : (longP p).tree = .node [.atom tmuB, .atom (newOf true [p]), .node [.atom cutB, .atom (newOf true [p]), p.tree]] := by
    rw [longP, if_neg (by rw [hk]; decide), P.tree, bhead_new, P.tree, P.tree]; rfl
  rw [htr]
  have hne := newOf_ne true [p]
  have hN := Lib.hid (fun W2 (h2 : Below W.heap.size W W2) => new1 true hh hs (LT.to ht h2))
  generalize newOf true [p] = x at *
  have ht' := Lib.hid ht
  clear htr ht
  have hW2 : ∀ W2, W2 = (W.alloc (.cells #[.string a, .slice q n m] 29)).alloc (.cells #[.string ⟨#[]⟩, .slice none 0 0] 29) → Below W.heap.size W W2 ∧ W2.heap.size = W.heap.size + 1 + 1 := by
    intro W2 h; subst h; exact ⟨bb_alloc (bb_alloc (Below.refl _ _) _) _, by simp⟩
  obtain ⟨hb2, hs2⟩ := hW2 _ rfl
  have hNc := hN.out _ hb2
  rw [hs2] at hNc
  have hbx := first_alloc W (.cells #[.string a, .slice q n m] 29) (.cells #[.string ⟨#[]⟩, .slice none 0 0] 29)
  have hrx := second_alloc W (.cells #[.string a, .slice q n m] 29) (.cells #[.string ⟨#[]⟩, .slice none 0 0] 29)
  have hNc' := Lib.hid hNc
  have hbx' := Lib.hid hbx
  have hrx' := Lib.hid hrx
  have hb2' := Lib.hid hb2
  have hs2' := Lib.hid hs2
  clear hW2 hNc hbx hrx hb2 hs2 hN
  go_enter Tryz.func28, Tryz.ntmps28
  go_wp2_with fail
  refine Calls.mono hNc'.out ?_
  rintro e w3 ⟨rfl, hb3⟩
  have s3 := hb3.size
  rw [hs2'.out] at s3
  have hb03 := Lib.hid (hb2'.out.trans (hb3.mono (by omega)))
  obtain ⟨z0, b0, b1, -, -⟩ := two_cells ((hb3.block W.heap.size (by omega)).trans hbx'.out)
  have hr3 := Lib.hid ((hb3.block (W.heap.size + 1) (by omega)).trans hrx'.out)
  have ht3 := Lib.hid (LT.to ht'.out hb03.out)
  clear hb3 hNc' hbx' hrx'
  go_wp2_with fail
  have hb4 : Below w3.heap.size w3 (w3.alloc (.cells #[.string (bs' x), .slice none 0 0] 29)) := bb_alloc (Below.refl _ _) _
  have hs4 : (w3.alloc (.cells #[.string (bs' x), .slice none 0 0] 29)).heap.size = w3.heap.size + 1 := by simp
  obtain ⟨-, d0, d1, -, -⟩ := two_cells (heap_alloc_new w3 (.cells #[.string (bs' x), .slice none 0 0] 29))
  generalize w3.alloc (.cells #[.string (bs' x), .slice none 0 0] 29) = w4 at *
  have k0 := (hb4.cell (p := ⟨W.heap.size, 0, none⟩) z0).trans b0
  have k1 := (hb4.cell (p := ⟨W.heap.size, 1, none⟩) z0).trans b1
  have hr4 := Lib.hid ((hb4.block (W.heap.size + 1) (by omega)).trans hr3.out)
  have hS : Hid (∀ w', Below w4.heap.size w4 w' → w'.cell? ⟨W.heap.size, 0, none⟩ = some (.string a) ∧ w'.cell? ⟨W.heap.size, 1, none⟩ = some (.slice q n m) ∧ w'.cell? ⟨w3.heap.size, 0, none⟩ = some (.string (bs' x)) ∧ w'.cell? ⟨w3.heap.size, 1, none⟩ = some (.slice none 0 0)) := fun w' h =>
    ⟨(h.cell (p := ⟨W.heap.size, 0, none⟩) (by show W.heap.size < _; omega)).trans k0, (h.cell (p := ⟨W.heap.size, 1, none⟩) (by show W.heap.size < _; omega)).trans k1, (h.cell (p := ⟨w3.heap.size, 0, none⟩) (by show w3.heap.size < _; omega)).trans d0, (h.cell (p := ⟨w3.heap.size, 1, none⟩) (by show w3.heap.size < _; omega)).trans d1⟩
  have hSs : Hid (∀ w' u v, Below w4.heap.size w4 w' → ((w'.setCell ⟨W.heap.size + 1, 0, none⟩ u).setCell ⟨W.heap.size + 1, 1, none⟩ v).cell? ⟨W.heap.size, 0, none⟩ = some (.string a) ∧ ((w'.setCell ⟨W.heap.size + 1, 0, none⟩ u).setCell ⟨W.heap.size + 1, 1, none⟩ v).cell? ⟨W.heap.size, 1, none⟩ = some (.slice q n m) ∧ ((w'.setCell ⟨W.heap.size + 1, 0, none⟩ u).setCell ⟨W.heap.size + 1, 1, none⟩ v).cell? ⟨w3.heap.size, 0, none⟩ = some (.string (bs' x)) ∧ ((w'.setCell ⟨W.heap.size + 1, 0, none⟩ u).setCell ⟨W.heap.size + 1, 1, none⟩ v).cell? ⟨w3.heap.size, 1, none⟩ = some (.slice none 0 0)) := fun w' u v h => by
    obtain ⟨e0, e1, e2, e3⟩ := hS.out w' h
    exact ⟨(keep_set ⟨e0, e1⟩ (by omega)).1, (keep_set ⟨e0, e1⟩ (by omega)).2, (keep_set ⟨e2, e3⟩ (by omega)).1, (keep_set ⟨e2, e3⟩ (by omega)).2⟩
  have hR : Hid (∀ w', Below w4.heap.size w4 w' → W.heap.size + 1 < w'.heap.size ∧ w'.cell? ⟨W.heap.size + 1, 0, none⟩ = some (.string ⟨#[]⟩) ∧ w'.cell? ⟨W.heap.size + 1, 1, none⟩ = some (.slice none 0 0) ∧ w'.frozen? ⟨W.heap.size + 1, 0, none⟩ = false ∧ w'.frozen? ⟨W.heap.size + 1, 1, none⟩ = false) := fun w' h => two_cells ((h.block _ (by omega)).trans hr4.out)
  have ht4 : Hid (LTX W.heap.size w4.heap.size w4 p.tree a q n m) := LT.x ht'.out rfl (hb03.out.trans (hb4.mono hb03.out.size))
  have hb04 := Lib.hid (hb03.out.trans (hb4.mono hb03.out.size))
  have hx1 : Hid (Below w4.heap.size w4 (w4.alloc (.cells #[.string (bs' x), .slice none 0 0, .string a, .slice q n m] 29)).drew) := (bb_alloc (Below.refl _ _) _).drew
  have hbk : Hid ((w4.alloc (.cells #[.string (bs' x), .slice none 0 0, .string a, .slice q n m] 29)).drew.heap[w4.heap.size]? = some (.cells #[.string (bs' x), .slice none 0 0, .string a, .slice q n m] 29 (0, 0))) := heap_alloc_new w4 _
  have hc1 : Hid (Calls Tryz.prog 20 #[.string ⟨#[99, 117, 116]⟩, .slice (some ⟨w4.heap.size, 0, none⟩) 2 2] (w4.alloc (.cells #[.string (bs' x), .slice none 0 0, .string a, .slice q n m] 29)).drew (TRX W.heap.size w4.heap.size (.node [.atom [99, 117, 116], .atom x, p.tree]) (w4.alloc (.cells #[.string (bs' x), .slice none 0 0, .string a, .slice q n m] 29)).drew)) := l2G [99, 117, 116] (by simp) (.atom x) p.tree hbk.out hx1.out.size (ltx_atom _ hne) (LTX.to ht4.out hx1.out)
  have hc2 : Hid (∀ (w5 : World) (u5 : ByteArray) (v5 : Option Addr) (n5 c5 : Nat), LTX W.heap.size w4.heap.size w5 (.node [.atom [99, 117, 116], .atom x, p.tree]) u5 v5 n5 c5 → w4.heap.size ≤ w5.heap.size → Calls Tryz.prog 20 #[.string ⟨#[116, 109, 117]⟩, .slice (some ⟨w5.heap.size, 0, none⟩) 2 2] (w5.alloc (.cells #[.string (bs' x), .slice none 0 0, .string u5, .slice v5 n5 c5] 29)) (TRX W.heap.size w4.heap.size (.node [.atom [116, 109, 117], .atom x, .node [.atom [99, 117, 116], .atom x, p.tree]]) (w5.alloc (.cells #[.string (bs' x), .slice none 0 0, .string u5, .slice v5 n5 c5] 29)))) := fun w5 u5 v5 n5 c5 t5 h5 => l2G [116, 109, 117] (by simp) (.atom x) _ (heap_alloc_new w5 _) (Nat.le_trans h5 (by simp)) (ltx_atom _ hne) (LTX.to t5 (bb_alloc (Below.refl _ _) _))
  have hne' := Lib.hid hne
  have hs4' := Lib.hid hs4
  have s3' := Lib.hid s3
  clear b0 b1 hb4 d0 d1 hs4 s3
  go_region_held3 (fun w' => w'.cell? ⟨W.heap.size, 0, none⟩ = some (.string a) ∧ w'.cell? ⟨W.heap.size, 1, none⟩ = some (.slice q n m) ∧ w'.cell? ⟨w3.heap.size, 0, none⟩ = some (.string (bs' x)) ∧ w'.cell? ⟨w3.heap.size, 1, none⟩ = some (.slice none 0 0))
    (first | exact hS.out _ (Below.refl _ _).drew | exact hS.out _ hx1.out | exact hS.out _ hb5 | exact hS.out _ (bb_alloc hb5 _) | exact hS.out _ hb6 | exact hSs.out _ _ _ hb6)
    (first
      | (go_at_call 20; refine Calls.mono (hc2.out w5 u5 v5 n5 c5 t5 hb5.size) ?_; rintro e w6 ⟨u6, v6, n6, c6, rfl, t6, hb6'⟩; have hb6 := below_step (bb_alloc hb5 (.cells #[.string (bs' x), .slice none 0 0, .string u5, .slice v5 n5 c5] 29)) (Nat.le_refl _) hb6'; obtain ⟨e0, e1, e2, e3, e4⟩ := hR.out w6 hb6)
      | (go_at_call 20; refine Calls.mono hc1.out ?_; rintro e w5 ⟨u5, v5, n5, c5, rfl, t5, hb5'⟩; have hb5 := below_step hx1.out (Nat.le_refl _) hb5'))
  go_wp2_with fail
  refine bodyPost_ret (v := .agg #[.string u6, .slice v6 n6 c6]) (by simp [results, Tryz.results28, go_sem, e1, e2]) rfl ?_
  have hbel : Below W.heap.size W w6 := hb04.out.trans (hb6.mono hb04.out.size)
  have h34 := hs4'.out
  have h33 := s3'.out
  exact ⟨_, _, _, _, rfl, LTX.fin (W := W) t6 (by omega) (by omega), (by repeat (with_reducible first | exact hbel | exact Below.refl _ _ | refine Below.drew ?_ | refine Below.drewN ?_ _ | refine Below.alloc ?_ (by first | (simp; done) | (simp; omega) | omega | (have := Below.size hbel; simp; omega) | (have := Below.size hbel; omega)) _ | refine Below.setCell ?_ (by first | (simp; done) | (simp; omega) | omega) _))⟩

end Go.Proofs.YtaagbnbekfogiaaGreatDoor

namespace Go.Proofs.YtaagbnbekfogiaaGreatDoor
set_option linter.unusedVariables false
open Go.RowKit
set_option maxRecDepth 100000

/-- What a form of a program comes to, where the kind is right. -/
def frT (f : P → P) (c : P → Bool) : Option P → Bs
  | some p => if c p = true then writeT (f p).canon else []
  | none => []
def frB (f : P → P) (c : P → Bool) : Option P → Bool
  | some p => if c p = true then writeB (f p).canon else false
  | none => false
def noS (p : P) : Bool := decide (p.kind ≠ .s)
theorem longP_ok {p : P} (hok : p.ok = true) (h5 : p.size ≤ 500) : (longP p).hok = true ∧ (longP p).nok = true ∧ (longP p).size ≤ 600 := by
  have h1 := P.ok_hok hok
  have h2 := P.nok_ok hok
  have hc : isMu [99, 117, 116] = false := by decide
  have n1 := newOf_nm false [p] (by simp [szL]; omega)
  have n2 := newOf_nm true [p] (by simp [szL]; omega)
  unfold longP
  split
  · refine ⟨by simp [P.hok, h1, hc, cutB], by simp [P.nok, h2, n1], by simp [P.size]; omega⟩
  · refine ⟨by simp [P.hok, h1, hc, cutB], by simp [P.nok, h2, n2], by simp [P.size]; omega⟩

set_option maxHeartbeats 1000000 in
theorem specLong (s : ByteArray) (w : World) : Calls Tryz.prog 10 #[.string s] w fun e w' => e = .returned (.tuple #[str (frT longP noS (readP s.data.toList)), .bool (frB longP noS (readP s.data.toList))]) ∧ Below w.heap.size w w' := by
  generalize hz : readP s.data.toList = o
  have hz' := Lib.hid hz
  clear hz
  go_enter Tryz.func10, Tryz.ntmps10
  go_wp2_with fail
  refine Calls.mono (l2Read_any s _) ?_
  rintro e w1 ⟨hb1, hp⟩
  have hb1' := Lib.hid hb1
  rcases hp with ⟨p, a, A, n, c, hrd, rfl, htc⟩ | ⟨a, A, n, c, hrd, rfl⟩
  · obtain rfl : some p = o := hrd.symm.trans hz'.out
    have hok := (readP_ok hrd).1
    have h5 := (readP_ok hrd).2.1
    obtain ⟨l1, l2, l3⟩ := longP_ok hok h5
    have ht1 : LT w1 p.tree a A n c := TC.keep (fun _ _ => rfl) (fun g hg => hg.2) _ _ _ _ _ htc
    have hcan := Lib.hid (fun W (u : ByteArray) v n2 c2 (h : LT W (longP p).tree u v n2 c2) => canonL l1 l2 (by omega) h)
    have hlt := Lib.hid (fun (hk : p.kind = .t) W (hW : Below w1.heap.size w1 W) => long_t hk (P.ok_hok hok) (by omega) W a A n c (LT.to ht1 hW))
    have hlc := Lib.hid (fun (hk : p.kind = .c) W (hW : Below w1.heap.size w1 W) => long_c hk (P.ok_hok hok) (by omega) W a A n c (LT.to ht1 hW))
    clear hrd htc hok h5 hb1 hz' l1 l2 l3 ht1
    cases hk : p.kind with
    | s =>
      have hfin : Hid (frT longP noS (some p) = [] ∧ frB longP noS (some p) = false) := by
        have h0 : noS p = false := by simp [noS, hk]
        exact ⟨by simp [frT, h0], by simp [frB, h0]⟩
      rw [show K.s.let = [115] from rfl]
      clear hlt hlc hk hcan
      go_wp2_with fail
      go_ret2
      exact ⟨by rw [hfin.out.1, hfin.out.2]; rfl, bb_alloc hb1'.out _⟩
    | t =>
      have hfin : Hid (frT longP noS (some p) = writeT (longP p).canon ∧ frB longP noS (some p) = writeB (longP p).canon) := by
        have h0 : noS p = true := by simp [noS, hk]
        exact ⟨by simp [frT, h0], by simp [frB, h0]⟩
      rw [show K.t.let = [116] from rfl]
      have hcall := Lib.hid (hlt.out hk)
      clear hlt hlc hk
      go_wp2_with fail
      refine Calls.mono (hcall.out _ (bb_alloc (Below.refl _ _) _)) ?_
      rintro e w2 ⟨u, v, n2, c2, rfl, t2, hb2⟩
      have hb02 := Lib.hid (below_step (bb_alloc hb1'.out (.cells #[.string a, .slice A n c] 29)) (Nat.le_refl _) hb2)
      clear hb2
      go_wp2_with fail
      refine Calls.mono (hcan.out _ _ _ _ _ t2) ?_
      rintro e w3 ⟨rfl, hb3⟩
      have hb03 := Lib.hid (below_step hb02.out (Nat.le_refl _) hb3)
      clear hb3
      go_wp2_with fail
      go_ret2
      exact ⟨by rw [hfin.out.1, hfin.out.2]; rfl, hb03.out⟩
    | c =>
      have hfin : Hid (frT longP noS (some p) = writeT (longP p).canon ∧ frB longP noS (some p) = writeB (longP p).canon) := by
        have h0 : noS p = true := by simp [noS, hk]
        exact ⟨by simp [frT, h0], by simp [frB, h0]⟩
      rw [show K.c.let = [99] from rfl]
      have hcall := Lib.hid (hlc.out hk)
      clear hlt hlc hk
      go_wp2_with fail
      refine Calls.mono (hcall.out _ (bb_alloc (Below.refl _ _) _)) ?_
      rintro e w2 ⟨u, v, n2, c2, rfl, t2, hb2⟩
      have hb02 := Lib.hid (below_step (bb_alloc hb1'.out (.cells #[.string a, .slice A n c] 29)) (Nat.le_refl _) hb2)
      clear hb2
      go_wp2_with fail
      refine Calls.mono (hcan.out _ _ _ _ _ t2) ?_
      rintro e w3 ⟨rfl, hb3⟩
      have hb03 := Lib.hid (below_step hb02.out (Nat.le_refl _) hb3)
      clear hb3
      go_wp2_with fail
      go_ret2
      exact ⟨by rw [hfin.out.1, hfin.out.2]; rfl, hb03.out⟩
  · obtain rfl : none = o := hrd.symm.trans hz'.out
    clear hrd hz' hb1
    go_wp2_with fail
    go_ret2
    exact ⟨rfl, bb_alloc hb1'.out _⟩

end Go.Proofs.YtaagbnbekfogiaaGreatDoor

namespace Go.Proofs.YtaagbnbekfogiaaGreatDoor
set_option linter.unusedVariables false
open Go.RowKit
set_option maxRecDepth 100000

/-- The not form, not canonical. -/
def notP (p : P) : P := .f1 notB (.bd (newOf true [p]) (.f2 cutB p (.f1 negB (.nm (newOf true [p])))))
def isTm (p : P) : Bool := decide (p.kind = .t)
theorem notP_ok {p : P} (hok : p.ok = true) (h5 : p.size ≤ 500) : (notP p).hok = true ∧ (notP p).nok = true ∧ (notP p).size ≤ 600 := by
  have h1 := P.ok_hok hok
  have h2 := P.nok_ok hok
  have hc : isMu [99, 117, 116] = false := by decide
  have hc2 : isMu [110, 111, 116] = false := by decide
  have hc3 : isMu [110, 101, 103] = false := by decide
  have n2 := newOf_nm true [p] (by simp [szL]; omega)
  unfold notP
  refine ⟨by simp [P.hok, h1, hc, hc2, hc3, cutB, notB, negB], by simp [P.nok, h2, n2], by simp [P.size]; omega⟩
theorem LTX.all {w : World} {t : T} {a : ByteArray} {p : Option Addr} {n c : Nat} (h : LTX 0 0 w t a p n c) : LT w t a p n c := TC.keep (fun _ _ => rfl) (fun g hg => hg.2) _ _ _ _ _ h
theorem LT.allx {w : World} {t : T} {a : ByteArray} {p : Option Addr} {n c : Nat} (h : LT w t a p n c) : LTX 0 0 w t a p n c := TC.keep (fun _ _ => rfl) (fun g hg => ⟨.inr (Nat.zero_le _), hg⟩) _ _ _ _ _ h

set_option maxHeartbeats 2000000 in
theorem specNot (s : ByteArray) (w : World) : Calls Tryz.prog 14 #[.string s] w fun e w' => e = .returned (.tuple #[str (frT notP isTm (readP s.data.toList)), .bool (frB notP isTm (readP s.data.toList))]) ∧ Below w.heap.size w w' := by
  generalize hz : readP s.data.toList = o
  have hz' := Lib.hid hz
  clear hz
  go_enter Tryz.func14, Tryz.ntmps14
  go_wp2_with fail
  refine Calls.mono (l2Read_any s _) ?_
  rintro e w1 ⟨hb1, hp⟩
  have hb1' := Lib.hid hb1
  rcases hp with ⟨p, a, A, n, c, hrd, rfl, htc⟩ | ⟨a, A, n, c, hrd, rfl⟩
  · obtain rfl : some p = o := hrd.symm.trans hz'.out
    have hok := (readP_ok hrd).1
    have h5 := (readP_ok hrd).2.1
    obtain ⟨l1, l2, l3⟩ := notP_ok hok h5
    have ht1 := Lib.hid (show LT w1 p.tree a A n c from TC.keep (fun _ _ => rfl) (fun g hg => hg.2) _ _ _ _ _ htc)
    have hcan := Lib.hid (fun W (u : ByteArray) v n2 c2 (h : LT W (notP p).tree u v n2 c2) => canonL l1 l2 (by omega) h)
    have htr : (notP p).tree = .node [.atom notB, .node [.atom tmuB, .atom (newOf true [p]), .node [.atom cutB, p.tree, .node [.atom negB, .atom (newOf true [p])]]]] := by
      rw [notP, P.tree, P.tree, bhead_new, P.tree, P.tree, P.tree]; rfl
    rw [htr] at hcan
    have hne := newOf_ne true [p]
    have hN := Lib.hid (fun W2 (h2 : Below w1.heap.size w1 W2) => new1 true (P.ok_hok hok) (by omega) (LT.to ht1.out h2))
    have hsT : p.kind ≠ .t → frT notP isTm (some p) = [] ∧ frB notP isTm (some p) = false := fun h => by
      have h0 : isTm p = false := by simp [isTm, h]
      exact ⟨by simp [frT, h0], by simp [frB, h0]⟩
    have hsT2 : p.kind = .t → frT notP isTm (some p) = writeT (notP p).canon ∧ frB notP isTm (some p) = writeB (notP p).canon := fun h => by
      have h0 : isTm p = true := by simp [isTm, h]
      exact ⟨by simp [frT, h0], by simp [frB, h0]⟩
    generalize newOf true [p] = x at *
    clear hrd htc hok h5 hb1 hz' l1 l2 l3 htr
    cases hk : p.kind with
    | s =>
      have hfin := Lib.hid (hsT (by rw [hk]; decide))
      rw [show K.s.let = [115] from rfl]
      clear hsT hsT2 hk hcan hN
      go_wp2_with fail
      go_ret2
      exact ⟨by rw [hfin.out.1, hfin.out.2]; rfl, bb_alloc hb1'.out _⟩
    | c =>
      have hfin := Lib.hid (hsT (by rw [hk]; decide))
      rw [show K.c.let = [99] from rfl]
      clear hsT hsT2 hk hcan hN
      go_wp2_with fail
      go_ret2
      exact ⟨by rw [hfin.out.1, hfin.out.2]; rfl, bb_alloc hb1'.out _⟩
    | t =>
      have hfin := Lib.hid (hsT2 hk)
      rw [show K.t.let = [116] from rfl]
      clear hsT hsT2 hk
      have hW2 : Below w1.heap.size w1 (w1.alloc (.cells #[.string a, .slice A n c] 29)) := bb_alloc (Below.refl _ _) _
      have hs2 : (w1.alloc (.cells #[.string a, .slice A n c] 29)).heap.size = w1.heap.size + 1 := by simp
      have hNc := hN.out _ hW2
      rw [hs2] at hNc
      have hNc' := Lib.hid hNc
      have hbx := Lib.hid (heap_alloc_new w1 (.cells #[.string a, .slice A n c] 29))
      have hW2' := Lib.hid hW2
      have hs2' := Lib.hid hs2
      clear hN hNc hW2 hs2
      go_wp2_with fail
      refine Calls.mono hNc'.out ?_
      rintro e w3 ⟨rfl, hb3⟩
      have s3 := hb3.size
      rw [hs2'.out] at s3
      have hb13 := Lib.hid (hW2'.out.trans (hb3.mono (by omega)))
      obtain ⟨z0, b0, b1, -, -⟩ := two_cells ((hb3.block w1.heap.size (by omega)).trans hbx.out)
      clear hb3 hNc'
      go_wp2_with fail
      have hb4 : Below w3.heap.size w3 (w3.alloc (.cells #[.string (bs' x), .slice none 0 0] 29)) := bb_alloc (Below.refl _ _) _
      have hs4 : (w3.alloc (.cells #[.string (bs' x), .slice none 0 0] 29)).heap.size = w3.heap.size + 1 := by simp
      obtain ⟨-, d0, d1, -, -⟩ := two_cells (heap_alloc_new w3 (.cells #[.string (bs' x), .slice none 0 0] 29))
      generalize w3.alloc (.cells #[.string (bs' x), .slice none 0 0] 29) = w4 at *
      have k0 := (hb4.cell (p := ⟨w1.heap.size, 0, none⟩) z0).trans b0
      have k1 := (hb4.cell (p := ⟨w1.heap.size, 1, none⟩) z0).trans b1
      have hS : Hid (∀ w', Below w4.heap.size w4 w' → w'.cell? ⟨w1.heap.size, 0, none⟩ = some (.string a) ∧ w'.cell? ⟨w1.heap.size, 1, none⟩ = some (.slice A n c) ∧ w'.cell? ⟨w3.heap.size, 0, none⟩ = some (.string (bs' x)) ∧ w'.cell? ⟨w3.heap.size, 1, none⟩ = some (.slice none 0 0)) := fun w' h =>
        ⟨(h.cell (p := ⟨w1.heap.size, 0, none⟩) (by show w1.heap.size < _; omega)).trans k0, (h.cell (p := ⟨w1.heap.size, 1, none⟩) (by show w1.heap.size < _; omega)).trans k1, (h.cell (p := ⟨w3.heap.size, 0, none⟩) (by show w3.heap.size < _; omega)).trans d0, (h.cell (p := ⟨w3.heap.size, 1, none⟩) (by show w3.heap.size < _; omega)).trans d1⟩
      have ht4 : Hid (LTX 0 0 w4 p.tree a A n c) := LT.allx (LT.to ht1.out (hb13.out.trans (hb4.mono hb13.out.size)))
      have hb14 : Hid (Below w1.heap.size w1 w4) := hb13.out.trans (hb4.mono hb13.out.size)
      have hx1 : Hid (Below w4.heap.size w4 (w4.alloc (.cells #[.string (bs' x), .slice none 0 0] 29)).drew) := (bb_alloc (Below.refl _ _) _).drew
      have hbk : Hid ((w4.alloc (.cells #[.string (bs' x), .slice none 0 0] 29)).drew.heap[w4.heap.size]? = some (.cells #[.string (bs' x), .slice none 0 0] 29 (0, 0))) := heap_alloc_new w4 _
      have hc1 : Hid (Calls Tryz.prog 20 #[.string ⟨#[110, 101, 103]⟩, .slice (some ⟨w4.heap.size, 0, none⟩) 1 1] (w4.alloc (.cells #[.string (bs' x), .slice none 0 0] 29)).drew (TRX 0 0 (.node [.atom negB, .atom x]) (w4.alloc (.cells #[.string (bs' x), .slice none 0 0] 29)).drew)) := l1G negB (by decide) (.atom x) hbk.out (Nat.zero_le _) (ltx_atom _ hne)
      have hc2 : Hid (∀ (w5 : World) (u5 : ByteArray) (v5 : Option Addr) (n5 c5 : Nat), Below w4.heap.size w4 w5 → LTX 0 0 w5 (.node [.atom negB, .atom x]) u5 v5 n5 c5 → Calls Tryz.prog 20 #[.string ⟨#[99, 117, 116]⟩, .slice (some ⟨w5.heap.size, 0, none⟩) 2 2] (w5.alloc (.cells #[.string a, .slice A n c, .string u5, .slice v5 n5 c5] 29)) (TRX 0 0 (.node [.atom cutB, p.tree, .node [.atom negB, .atom x]]) (w5.alloc (.cells #[.string a, .slice A n c, .string u5, .slice v5 n5 c5] 29)))) := fun w5 u5 v5 n5 c5 h5 t5 => l2G cutB (by decide) p.tree _ (heap_alloc_new w5 _) (Nat.zero_le _) (LTX.to (LTX.to ht4.out h5) (bb_alloc (Below.refl _ _) _)) (LTX.to t5 (bb_alloc (Below.refl _ _) _))
      have hc3 : Hid (∀ (w5 : World) (t : T) (u5 : ByteArray) (v5 : Option Addr) (n5 c5 : Nat), LTX 0 0 w5 t u5 v5 n5 c5 → Calls Tryz.prog 20 #[.string ⟨#[116, 109, 117]⟩, .slice (some ⟨w5.heap.size, 0, none⟩) 2 2] (w5.alloc (.cells #[.string (bs' x), .slice none 0 0, .string u5, .slice v5 n5 c5] 29)) (TRX 0 0 (.node [.atom tmuB, .atom x, t]) (w5.alloc (.cells #[.string (bs' x), .slice none 0 0, .string u5, .slice v5 n5 c5] 29)))) := fun w5 t u5 v5 n5 c5 t5 => l2G tmuB (by decide) (.atom x) _ (heap_alloc_new w5 _) (Nat.zero_le _) (ltx_atom _ hne) (LTX.to t5 (bb_alloc (Below.refl _ _) _))
      have hc4 : Hid (∀ (w5 : World) (t : T) (u5 : ByteArray) (v5 : Option Addr) (n5 c5 : Nat), LTX 0 0 w5 t u5 v5 n5 c5 → Calls Tryz.prog 20 #[.string ⟨#[110, 111, 116]⟩, .slice (some ⟨w5.heap.size, 0, none⟩) 1 1] (w5.alloc (.cells #[.string u5, .slice v5 n5 c5] 29)) (TRX 0 0 (.node [.atom notB, t]) (w5.alloc (.cells #[.string u5, .slice v5 n5 c5] 29)))) := fun w5 t u5 v5 n5 c5 t5 => l1G notB (by decide) _ (heap_alloc_new w5 _) (Nat.zero_le _) (LTX.to t5 (bb_alloc (Below.refl _ _) _))
      clear b0 b1 hb4 d0 d1 hs4 s3 hb13 hbx
      go_region_held3 (fun w' => w'.cell? ⟨w1.heap.size, 0, none⟩ = some (.string a) ∧ w'.cell? ⟨w1.heap.size, 1, none⟩ = some (.slice A n c) ∧ w'.cell? ⟨w3.heap.size, 0, none⟩ = some (.string (bs' x)) ∧ w'.cell? ⟨w3.heap.size, 1, none⟩ = some (.slice none 0 0))
        (first | exact hS.out _ (Below.refl _ _).drew | exact hS.out _ hx1.out | exact hS.out _ hb5 | exact hS.out _ (bb_alloc hb5 _) | exact hS.out _ hb6 | exact hS.out _ (bb_alloc hb6 _) | exact hS.out _ hb7 | exact hS.out _ (bb_alloc hb7 _) | exact hS.out _ hb8 | exact hS.out _ hb9)
        (first
          | (go_at_call 19; refine Calls.mono (hcan.out _ _ _ _ _ (LTX.all t8)) ?_; rintro e w9 ⟨rfl, hb9'⟩; have hb9 := below_step hb8 (Nat.le_refl _) hb9')
          | (go_at_call 20; refine Calls.mono (hc4.out w7 _ u7 v7 n7 c7 t7) ?_; rintro e w8 ⟨u8, v8, n8, c8, rfl, t8, hb8'⟩; have hb8 := below_step (bb_alloc hb7 (.cells #[.string u7, .slice v7 n7 c7] 29)) (Nat.le_refl _) hb8')
          | (go_at_call 20; refine Calls.mono (hc3.out w6 _ u6 v6 n6 c6 t6) ?_; rintro e w7 ⟨u7, v7, n7, c7, rfl, t7, hb7'⟩; have hb7 := below_step (bb_alloc hb6 (.cells #[.string (bs' x), .slice none 0 0, .string u6, .slice v6 n6 c6] 29)) (Nat.le_refl _) hb7')
          | (go_at_call 20; refine Calls.mono (hc2.out w5 u5 v5 n5 c5 hb5 t5) ?_; rintro e w6 ⟨u6, v6, n6, c6, rfl, t6, hb6'⟩; have hb6 := below_step (bb_alloc hb5 (.cells #[.string a, .slice A n c, .string u5, .slice v5 n5 c5] 29)) (Nat.le_refl _) hb6')
          | (go_at_call 20; refine Calls.mono hc1.out ?_; rintro e w5 ⟨u5, v5, n5, c5, rfl, t5, hb5'⟩; have hb5 := below_step hx1.out (Nat.le_refl _) hb5'))
      go_wp2_with fail
      go_ret2
      exact ⟨by rw [hfin.out.1, hfin.out.2]; rfl, hb1'.out.trans ((hb14.out.trans (hb9.mono hb14.out.size)).mono hb1'.out.size)⟩
  · obtain rfl : none = o := hrd.symm.trans hz'.out
    clear hrd hz' hb1
    go_wp2_with fail
    go_ret2
    exact ⟨rfl, bb_alloc hb1'.out _⟩

end Go.Proofs.YtaagbnbekfogiaaGreatDoor
