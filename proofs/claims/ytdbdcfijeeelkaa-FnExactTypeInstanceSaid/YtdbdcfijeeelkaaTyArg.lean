/- Typings as arguments and results: szTyping, toTyping, eqTyping, markTyping, heldTyping. -/
import Derived.Test.YtdbdcfijeeelkaaArgs
import Derived.Test.YtdbdcfijeeelkaaMark
import Derived.Test.YtdbdcfijeeelkaaHas
namespace Go.Proofs.Ytdbdcfijeeelkaa
set_option linter.unusedVariables false
open Go.RowKit

/-- A typing as a value. -/
abbrev tyV (A : Option Addr) (n c : Nat) (B : Option Addr) (m d : Nat) (s : ByteArray) : Value := .agg #[.slice A n c, .slice B m d, .string s]

theorem three_cells {w : World} {b : Nat} {x y z : Value} {E : TypeId} (h : w.heap[b]? = some (.cells #[x, y, z] E (0, 0))) :
    b < w.heap.size ∧ w.cell? ⟨b, 0, none⟩ = some x ∧ w.cell? ⟨b, 1, none⟩ = some y ∧ w.cell? ⟨b, 2, none⟩ = some z ∧ w.frozen? ⟨b, 0, none⟩ = false ∧ w.frozen? ⟨b, 1, none⟩ = false ∧ w.frozen? ⟨b, 2, none⟩ = false := by
  refine ⟨?_, by simp [World.cell?, h], by simp [World.cell?, h], by simp [World.cell?, h], by simp [World.frozen?, h], by simp [World.frozen?, h], by simp [World.frozen?, h]⟩
  rcases Nat.lt_or_ge b w.heap.size with hl | hg
  · exact hl
  · rw [Array.getElem?_eq_none hg] at h; cases h

theorem set_first3 {w : World} {b : Nat} {x y z u : Value} {E : TypeId} (h : w.heap[b]? = some (.cells #[x, y, z] E (0, 0))) : (w.setCell ⟨b, 0, none⟩ u).heap[b]? = some (.cells #[u, y, z] E (0, 0)) := by
  simp [World.setCell, Array.getElem?_modify, h]

def SzYPost (n m : Nat) (z : Int) (w : World) (e : Ending) (w' : World) : Prop := (∃ r : Int, e = .returned (.int .i64 r) ∧ -1 ≤ r ∧ r ≤ z ∧ (0 ≤ r → (n : Int) ≤ z ∧ (m : Int) ≤ z)) ∧ Below w.heap.size w w'

theorem szY_any (A : Option Addr) (n c : Nat) (ss : List ByteArray) (B : Option Addr) (m d : Nat) (ts : List ByteArray) (s : ByteArray) (z : Int) (w : World)
    (hA : ArgS w A n ss) (hB : ArgS w B m ts) (hs : s.size ≤ maxLen) (hn : n ≤ maxLen) (hm : m ≤ maxLen) (h0 : 0 ≤ z) (hz : z ≤ 1048576) :
    Calls Try.prog 5 #[tyV A n c B m d s, .int .i64 z] w (SzYPost n m z w) := by
  have hA' := Lib.hid (fun W (hW : Below w.heap.size w W) => hA.below hW)
  have hB' := Lib.hid (fun W (hW : Below w.heap.size w W) => hB.below hW)
  have no : Hid (∀ w', Below w.heap.size w w' → SzYPost n m z w (.returned (.int .i64 (-1))) w') := fun w' h => ⟨⟨-1, rfl, by omega, by omega, by omega⟩, h⟩
  have yes : Hid (∀ (r : Int) w', 0 ≤ r → r ≤ z → (n : Int) ≤ z → (m : Int) ≤ z → Below w.heap.size w w' → SzYPost n m z w (.returned (.int .i64 r)) w') := fun r w' h1 h2 h3 h4 h => ⟨⟨r, rfl, by omega, h2, fun _ => ⟨h3, h4⟩⟩, h⟩
  have hs' : s.size ≤ 9223372036854775807 := by unfold maxLen at hs; exact hs
  clear hA hB
  go_enter Try.func5, Try.ntmps5
  go_wp2_with fail
  refine (sz_any A n c ss z _ (hA'.out _ (by repeat (with_reducible first | exact hbel | exact Below.refl _ _ | refine Below.drew ?_ | refine Below.drewN ?_ _ | refine Below.alloc ?_ (by first | (simp; done) | (simp; omega) | omega | (have := Below.size hbel; simp; omega) | (have := Below.size hbel; omega)) _ | refine Below.setCell ?_ (by first | (simp; done) | (simp; omega) | omega) _))) h0 hz hn).mono ?_
  rintro e w1 ⟨⟨r1, rfl, h11, h12, h13⟩, rfl⟩
  by_cases hneg : r1 < 0
  · go_wp2_with fail
    go_ret
    exact no.out _ (by repeat (with_reducible first | exact hbel | exact Below.refl _ _ | refine Below.drew ?_ | refine Below.drewN ?_ _ | refine Below.alloc ?_ (by first | (simp; done) | (simp; omega) | omega | (have := Below.size hbel; simp; omega) | (have := Below.size hbel; omega)) _ | refine Below.setCell ?_ (by first | (simp; done) | (simp; omega) | omega) _))
  · have hn' := h13 (by omega)
    clear h13
    go_wp2_with fail
    refine (sz_any B m d ts r1 _ (hB'.out _ (by repeat (with_reducible first | exact hbel | exact Below.refl _ _ | refine Below.drew ?_ | refine Below.drewN ?_ _ | refine Below.alloc ?_ (by first | (simp; done) | (simp; omega) | omega | (have := Below.size hbel; simp; omega) | (have := Below.size hbel; omega)) _ | refine Below.setCell ?_ (by first | (simp; done) | (simp; omega) | omega) _))) (by omega) (by omega) hm).mono ?_
    rintro e w2 ⟨⟨r2, rfl, h21, h22, h23⟩, rfl⟩
    by_cases hneg2 : r2 < 0
    · go_wp2_with fail
      go_ret
      exact no.out _ (by repeat (with_reducible first | exact hbel | exact Below.refl _ _ | refine Below.drew ?_ | refine Below.drewN ?_ _ | refine Below.alloc ?_ (by first | (simp; done) | (simp; omega) | omega | (have := Below.size hbel; simp; omega) | (have := Below.size hbel; omega)) _ | refine Below.setCell ?_ (by first | (simp; done) | (simp; omega) | omega) _))
    · have hm' := h23 (by omega)
      clear h23
      by_cases hneg3 : r2 - (s.size : Int) < 0
      · go_wp2_with fail
        go_ret
        exact no.out _ (by repeat (with_reducible first | exact hbel | exact Below.refl _ _ | refine Below.drew ?_ | refine Below.drewN ?_ _ | refine Below.alloc ?_ (by first | (simp; done) | (simp; omega) | omega | (have := Below.size hbel; simp; omega) | (have := Below.size hbel; omega)) _ | refine Below.setCell ?_ (by first | (simp; done) | (simp; omega) | omega) _))
      · go_wp2_with fail
        go_ret
        exact yes.out _ _ (by omega) (by omega) hn' (by omega) (by repeat (with_reducible first | exact hbel | exact Below.refl _ _ | refine Below.drew ?_ | refine Below.drewN ?_ _ | refine Below.alloc ?_ (by first | (simp; done) | (simp; omega) | omega | (have := Below.size hbel; simp; omega) | (have := Below.size hbel; omega)) _ | refine Below.setCell ?_ (by first | (simp; done) | (simp; omega) | omega) _))

/-- Two rows of the call's own, apart from each other, each block of which is from lo on and below hi. -/
structure TyO (w : World) (lo hi : Nat) (A : Option Addr) (n c : Nat) (B : Option Addr) (m d : Nat) (ss ts : List ByteArray) : Prop where
  names : w.ownsRow lo 9 1 (.slice A n c) n (ss.map Value.string)
  types : w.ownsRow lo 9 1 (.slice B m d) m (ts.map Value.string)
  apart : ∀ k, (Value.slice A n c).ownBlock = some k → (Value.slice B m d).ownBlock ≠ some k
  below1 : ∀ k, (Value.slice A n c).ownBlock = some k → k < hi
  below2 : ∀ k, (Value.slice B m d).ownBlock = some k → k < hi

theorem TyO.below {w w' : World} {lo hi : Nat} {A B : Option Addr} {n c m d : Nat} {ss ts : List ByteArray} (h : TyO w lo hi A n c B m d ss ts) (hb : Below w.heap.size w w') : TyO w' lo hi A n c B m d ss ts :=
  ⟨own_below h.names hb, own_below h.types hb, h.apart, h.below1, h.below2⟩

/-- What blocks from lo on and below hi may turn. -/
structure Turn (lo hi : Nat) (w w' : World) : Prop where
  os : w'.os = w.os
  tape : w'.tape = w.tape
  output : w'.output = w.output
  size : w.heap.size ≤ w'.heap.size
  block : ∀ k, k < w.heap.size → ¬ (lo ≤ k ∧ k < hi) → w'.heap[k]? = w.heap[k]?

theorem Turn.belows {lo hi : Nat} {w0 w w' : World} (hb : Below w0.heap.size w0 w) (h : Turn lo hi w w') (hl : w0.heap.size ≤ lo) : Below w0.heap.size w0 w' :=
  ⟨h.os.trans hb.os, h.tape.trans hb.tape, h.output.trans hb.output, Nat.le_trans hb.size h.size, fun k hk => (h.block k (Nat.lt_of_lt_of_le hk hb.size) (by omega)).trans (hb.block k hk)⟩
theorem TyO.turn {w w' : World} {lo hi lo2 hi2 : Nat} {A B : Option Addr} {n c m d : Nat} {ss ts : List ByteArray} (h : TyO w lo hi A n c B m d ss ts) (ht : Turn lo2 hi2 w w') (hd : hi ≤ lo2 ∨ hi2 ≤ lo) : TyO w' lo hi A n c B m d ss ts :=
  ⟨own_same h.names (fun j hj => ht.block j (h.names.lt j hj).2 (by have := h.below1 j hj; have := (h.names.lt j hj).1; omega)),
   own_same h.types (fun j hj => ht.block j (h.types.lt j hj).2 (by have := h.below2 j hj; have := (h.types.lt j hj).1; omega)), h.apart, h.below1, h.below2⟩

/-- A call hands back a typing in memory of its own. -/
def TyRet (ss ts : List ByteArray) (s : ByteArray) (w : World) (e : Ending) (w' : World) : Prop :=
  ∃ A c B d, e = .returned (tyV A ss.length c B ts.length d s) ∧ TyO w' w.heap.size w'.heap.size A ss.length c B ts.length d ss ts ∧ Below w.heap.size w w'
/-- The same beside a bool. -/
def TyRet2 (ss ts : List ByteArray) (s : ByteArray) (b : Bool) (w : World) (e : Ending) (w' : World) : Prop :=
  ∃ A c B d, e = .returned (.tuple #[tyV A ss.length c B ts.length d s, .bool b]) ∧ TyO w' w.heap.size w'.heap.size A ss.length c B ts.length d ss ts ∧ Below w.heap.size w w'

theorem own_lower {w : World} {base lo : Nat} {E : TypeId} {size : Nat} {v : Value} {n : Nat} {xs : List Value} (h : w.ownsRow base E size v n xs) (hl : lo ≤ base) : w.ownsRow lo E size v n xs := by
  refine ⟨h.1, ?_⟩
  rcases h.2 with h2 | ⟨g, cap, cur, rfl, hb, r⟩
  · exact .inl h2
  · exact .inr ⟨g, cap, cur, rfl, Nat.le_trans hl hb, r⟩

theorem tyO_of {w1 w2 w3 : World} {lo mid : Nat} {A B : Option Addr} {n c m d : Nat} {ss ts : List ByteArray} (h1 : w1.ownsRow lo 9 1 (.slice A n c) n (ss.map Value.string)) (hb : Below w1.heap.size w1 w2)
    (h2 : w2.ownsRow mid 9 1 (.slice B m d) m (ts.map Value.string)) (hm : w1.heap.size ≤ mid) (hl : lo ≤ mid) (h3 : Below w2.heap.size w2 w3) : TyO w3 lo w3.heap.size A n c B m d ss ts :=
  ⟨own_below (own_below h1 hb) h3, own_lower (own_below h2 h3) hl, fun k hk e => by have := (h1.lt k hk).2; have := (h2.lt k e).1; omega,
   fun k hk => by have := (h1.lt k hk).2; have := hb.size; have := h3.size; omega, fun k hk => by have := (h2.lt k hk).2; have := h3.size; omega⟩

theorem TyO.lower {w : World} {lo lo' hi : Nat} {A B : Option Addr} {n c m d : Nat} {ss ts : List ByteArray} (h : TyO w lo hi A n c B m d ss ts) (hl : lo' ≤ lo) : TyO w lo' hi A n c B m d ss ts :=
  ⟨own_lower h.names hl, own_lower h.types hl, h.apart, h.below1, h.below2⟩
theorem TyO.upper {w : World} {lo hi hi' : Nat} {A B : Option Addr} {n c m d : Nat} {ss ts : List ByteArray} (h : TyO w lo hi A n c B m d ss ts) (hl : hi ≤ hi') : TyO w lo hi' A n c B m d ss ts :=
  ⟨h.names, h.types, h.apart, fun k hk => Nat.lt_of_lt_of_le (h.below1 k hk) hl, fun k hk => Nat.lt_of_lt_of_le (h.below2 k hk) hl⟩
theorem Turn.refl (lo hi : Nat) (w : World) : Turn lo hi w w := ⟨rfl, rfl, rfl, Nat.le_refl _, fun _ _ _ => rfl⟩
theorem Turn.set {lo hi : Nat} {w W : World} (h : Turn lo hi w W) (p o : Nat) (v : Value) (hp : lo ≤ p ∧ p < hi) : Turn lo hi w (W.setCell ⟨p, o, none⟩ v) :=
  ⟨h.os, h.tape, h.output, by simpa using h.size, fun k hk hn => (Below.heap_setCell W _ v k (by simp only; omega)).trans (h.block k hk hn)⟩

theorem toY_any (A : Option Addr) (n c : Nat) (ss : List ByteArray) (B : Option Addr) (m d : Nat) (ts : List ByteArray) (s : ByteArray) (w : World)
    (hA : RowS w A n ss) (hB : RowS w B m ts) (hn : n ≤ 10000000) (hm : m ≤ 10000000) :
    Calls Try.prog 7 #[tyV A n c B m d s] w (TyRet ss ts s w) := by
  have hA' := Lib.hid (fun W (hW : Below w.heap.size w W) => hA.below hW)
  have hB' := Lib.hid (fun W (hW : Below w.heap.size w W) => hB.below hW)
  clear hA hB
  go_enter Try.func7, Try.ntmps7
  go_wp2_with fail
  have q0 : (((w.alloc (.cells #[.slice A n c, .slice B m d, .string s] 24)).alloc (.cells #[.slice none 0 0, .slice none 0 0, .string ⟨#[]⟩] 26)).alloc (.cells #[.slice none 0 0, .slice none 0 0, .string ⟨#[]⟩] 26)).heap[w.heap.size]? = some (.cells #[.slice A n c, .slice B m d, .string s] 24 (0, 0)) :=
    (Below.heap_alloc _ _ _ (by simp; omega)).trans (first_alloc _ _ _)
  have q1 : (((w.alloc (.cells #[.slice A n c, .slice B m d, .string s] 24)).alloc (.cells #[.slice none 0 0, .slice none 0 0, .string ⟨#[]⟩] 26)).alloc (.cells #[.slice none 0 0, .slice none 0 0, .string ⟨#[]⟩] 26)).heap[w.heap.size + 1]? = some (.cells #[.slice none 0 0, .slice none 0 0, .string ⟨#[]⟩] 26 (0, 0)) :=
    (Below.heap_alloc _ _ _ (by simp)).trans (second_alloc _ _ _)
  have q2 : (((w.alloc (.cells #[.slice A n c, .slice B m d, .string s] 24)).alloc (.cells #[.slice none 0 0, .slice none 0 0, .string ⟨#[]⟩] 26)).alloc (.cells #[.slice none 0 0, .slice none 0 0, .string ⟨#[]⟩] 26)).heap[w.heap.size + 2]? = some (.cells #[.slice none 0 0, .slice none 0 0, .string ⟨#[]⟩] 26 (0, 0)) := by
    have h := heap_alloc_new ((w.alloc (.cells #[.slice A n c, .slice B m d, .string s] 24)).alloc (.cells #[.slice none 0 0, .slice none 0 0, .string ⟨#[]⟩] 26)) (.cells #[.slice none 0 0, .slice none 0 0, .string ⟨#[]⟩] 26)
    rw [show ((w.alloc (.cells #[.slice A n c, .slice B m d, .string s] 24)).alloc (.cells #[.slice none 0 0, .slice none 0 0, .string ⟨#[]⟩] 26)).heap.size = w.heap.size + 2 from by simp] at h
    exact h
  have hb3 : Below w.heap.size w (((w.alloc (.cells #[.slice A n c, .slice B m d, .string s] 24)).alloc (.cells #[.slice none 0 0, .slice none 0 0, .string ⟨#[]⟩] 26)).alloc (.cells #[.slice none 0 0, .slice none 0 0, .string ⟨#[]⟩] 26)) := bb_alloc (bb_alloc ((Below.refl _ _).alloc (Nat.le_refl _) _) _) _
  have hz3 : (((w.alloc (.cells #[.slice A n c, .slice B m d, .string s] 24)).alloc (.cells #[.slice none 0 0, .slice none 0 0, .string ⟨#[]⟩] 26)).alloc (.cells #[.slice none 0 0, .slice none 0 0, .string ⟨#[]⟩] 26)).heap.size = w.heap.size + 3 := by simp
  generalize (((w.alloc (.cells #[.slice A n c, .slice B m d, .string s] 24)).alloc (.cells #[.slice none 0 0, .slice none 0 0, .string ⟨#[]⟩] 26)).alloc (.cells #[.slice none 0 0, .slice none 0 0, .string ⟨#[]⟩] 26)) = w3 at *
  have hb3' := Lib.hid hb3
  clear hb3
  refine (toStr_any A n c ss w3 (hA'.out _ hb3'.out) hn).mono ?_
  rintro e w1 ⟨A1, c1, rfl, own1, hb1⟩
  have hs1 := hb1.size
  obtain ⟨z0, a0, a1, a2, -, -, -⟩ := three_cells ((hb1.block w.heap.size (by omega)).trans q0)
  obtain ⟨z1, b0, b1, b2, g0, g1, g2⟩ := three_cells ((hb1.block (w.heap.size + 1) (by omega)).trans q1)
  obtain ⟨z2, d0, d1, d2, f0, f1, f2⟩ := three_cells ((hb1.block (w.heap.size + 2) (by omega)).trans q2)
  have k0 := Lib.hid ((hb1.block w.heap.size (by omega)).trans q0)
  have k1 := Lib.hid ((hb1.block (w.heap.size + 1) (by omega)).trans q1)
  have k2 := Lib.hid ((hb1.block (w.heap.size + 2) (by omega)).trans q2)
  have own1' := Lib.hid own1
  have hb1' := Lib.hid (below_step hb3'.out (Nat.le_refl _) hb1)
  clear own1 hb1 q0 q1 q2
  go_wp2_with fail
  have hbel := hb1'.out
  refine (toStr_any B m d ts _ (hB'.out _ (by repeat (with_reducible first | exact hbel | exact Below.refl _ _ | refine Below.drew ?_ | refine Below.drewN ?_ _ | refine Below.alloc ?_ (by first | (simp; done) | (simp; omega) | omega | (have := Below.size hbel; simp; omega) | (have := Below.size hbel; omega)) _ | refine Below.setCell ?_ (by first | (simp; done) | (simp; omega) | omega) _))) hm).mono ?_
  rintro e w4 ⟨B1, d1', rfl, own2, hb2⟩
  have hs2 := hb2.size
  have hsz1 : (w1.setCell ⟨w.heap.size + 1 + 1, 0, none⟩ (.slice A1 ss.length c1)).heap.size = w1.heap.size := by simp
  have hs2 : w1.heap.size ≤ w4.heap.size := by rw [← hsz1]; exact hb2.size
  have own1a := own_same (w' := w1.setCell ⟨w.heap.size + 1 + 1, 0, none⟩ (.slice A1 ss.length c1)) own1'.out (fun j hj => Below.heap_setCell _ _ _ _ (by have := (own1'.out.lt j hj).1; simp only; omega))
  have hbt : Below w.heap.size w w4 := below_step (by repeat (with_reducible first | exact hbel | exact Below.refl _ _ | refine Below.drew ?_ | refine Below.drewN ?_ _ | refine Below.alloc ?_ (by first | (simp; done) | (simp; omega) | omega | (have := Below.size hbel; simp; omega) | (have := Below.size hbel; omega)) _ | refine Below.setCell ?_ (by first | (simp; done) | (simp; omega) | omega) _)) (Nat.le_refl _) hb2
  have hty := tyO_of own1a hb2 own2 (Nat.le_refl _) (by rw [hsz1]; omega) (Below.refl _ _)
  have s0 := ((hb2.block w.heap.size (by rw [hsz1]; omega)).trans (Below.heap_setCell _ _ _ _ (by simp only; omega))).trans k0.out
  have s1 := ((hb2.block (w.heap.size + 1) (by rw [hsz1]; omega)).trans (Below.heap_setCell _ _ _ _ (by simp only; omega))).trans k1.out
  have s2 := (hb2.block (w.heap.size + 2) (by rw [hsz1]; omega)).trans (set_first3 k2.out)
  have hty' := Lib.hid hty
  have hbt' := Lib.hid hbt
  obtain ⟨z0, a0, a1, a2, -, -, -⟩ := three_cells s0
  obtain ⟨z1, b0, b1, b2, g0, g1, g2⟩ := three_cells s1
  obtain ⟨z2, d0, d1, d2, f0, f1, f2⟩ := three_cells s2
  clear hty own1a own2 hb2 hbel hbt hs2 s0 s1 s2
  go_wp2_with fail
  refine bodyPost_ret (v := tyV A1 ss.length c1 B1 ts.length d1' s) (by simp [results, Try.results7, go_sem, b0, b1, b2]) rfl ?_
  have hT := Turn.set (Turn.set (Turn.set (Turn.set (Turn.set (Turn.refl w.heap.size w3.heap.size w4) (w.heap.size + 1 + 1) 1 (.slice B1 ts.length d1') (by omega)) (w.heap.size + 1 + 1) 2 (.string s) (by omega)) (w.heap.size + 1) 0 (.slice A1 ss.length c1) (by omega)) (w.heap.size + 1) 1 (.slice B1 ts.length d1') (by omega)) (w.heap.size + 1) 2 (.string s) (by omega)
  have h1 := (hty'.out.turn hT (.inr (Nat.le_refl _))).lower (lo' := w.heap.size) (by omega)
  exact ⟨_, _, _, _, rfl, h1.upper (by simp), hT.belows hbt'.out (Nat.le_refl _)⟩

theorem eqY_any (A : Option Addr) (n c : Nat) (ss : List ByteArray) (B : Option Addr) (m d : Nat) (ts : List ByteArray) (s : ByteArray) (A' : Option Addr) (n' c' : Nat) (ss' : List ByteArray) (B' : Option Addr) (m' d' : Nat) (ts' : List ByteArray) (w : World)
    (hA : RowS w A n ss) (hB : RowS w B m ts) (hA2 : RowS w A' n' ss) (hB2 : RowS w B' m' ts) (hn : n ≤ 100000000) (hm : m ≤ 100000000) :
    Calls Try.prog 9 #[tyV A n c B m d s, tyV A' n' c' B' m' d' s] w fun e w' => e = .returned (.bool true) ∧ Below w.heap.size w w' := by
  have h1 := Lib.hid (fun W (hW : Below w.heap.size w W) => eq_any A A' n n' c c' ss ss W (hA.below hW) (hA2.below hW) hn)
  have h2 := Lib.hid (fun W (hW : Below w.heap.size w W) => eq_any B B' m m' d d' ts ts W (hB.below hW) (hB2.below hW) hm)
  simp only [decide_true] at h1 h2
  have hss := strNe s s true (by simp)
  clear hA hB hA2 hB2
  go_enter Try.func9, Try.ntmps9
  go_wp2_with fail
  have q0 := first_alloc w (.cells #[.slice A n c, .slice B m d, .string s] 26) (.cells #[.slice A' n' c', .slice B' m' d', .string s] 26)
  have q1 := second_alloc w (.cells #[.slice A n c, .slice B m d, .string s] 26) (.cells #[.slice A' n' c', .slice B' m' d', .string s] 26)
  have hb0 : Below w.heap.size w ((w.alloc (.cells #[.slice A n c, .slice B m d, .string s] 26)).alloc (.cells #[.slice A' n' c', .slice B' m' d', .string s] 26)) := bb_alloc (bb_alloc (Below.refl _ _) _) _
  have hz0 : ((w.alloc (.cells #[.slice A n c, .slice B m d, .string s] 26)).alloc (.cells #[.slice A' n' c', .slice B' m' d', .string s] 26)).heap.size = w.heap.size + 2 := by simp
  generalize ((w.alloc (.cells #[.slice A n c, .slice B m d, .string s] 26)).alloc (.cells #[.slice A' n' c', .slice B' m' d', .string s] 26)) = w0 at *
  have hb0' := Lib.hid hb0
  clear hb0
  refine (h1.out w0 hb0'.out).mono ?_
  rintro e w1 ⟨rfl, hb1⟩
  have k0 := (hb1.block w.heap.size (by omega)).trans q0
  have k1 := (hb1.block (w.heap.size + 1) (by omega)).trans q1
  obtain ⟨z0, a0, a1, a2, -, -, -⟩ := three_cells k0
  obtain ⟨z1, b0, b1, b2, -, -, -⟩ := three_cells k1
  have hb1' := Lib.hid (below_step hb0'.out (Nat.le_refl _) hb1)
  have k0' := Lib.hid k0
  have k1' := Lib.hid k1
  clear hb1 q0 q1 k0 k1
  go_wp2_with fail
  refine (h2.out w1 hb1'.out).mono ?_
  rintro e w2 ⟨rfl, hb2⟩
  obtain ⟨y0, c0, c1, c2, -, -, -⟩ := three_cells ((hb2.block w.heap.size (by omega)).trans k0'.out)
  obtain ⟨y1, d0, d1, d2, -, -, -⟩ := three_cells ((hb2.block (w.heap.size + 1) (by omega)).trans k1'.out)
  have hb2' := Lib.hid (below_step hb1'.out (Nat.le_refl _) hb2)
  clear hb2
  go_wp2_with fail
  go_ret
  exact ⟨rfl, hb2'.out⟩

theorem gr_turn {w w' : World} {lo hi : Nat} {row : Option Nat} (h : w.grownBy w' row) (hr : ∀ k, row = some k → lo ≤ k ∧ k < hi) : Turn lo hi w w' :=
  ⟨h.os, h.tape, h.output, h.size, fun k hk hn => h.block k hk (fun e => hn (hr k e.symm))⟩
theorem Turn.trans {lo hi : Nat} {a b c : World} (h : Turn lo hi a b) (k : Turn lo hi b c) : Turn lo hi a c :=
  ⟨k.os.trans h.os, k.tape.trans h.tape, k.output.trans h.output, Nat.le_trans h.size k.size, fun i hi hn => (k.block i (Nat.lt_of_lt_of_le hi h.size) hn).trans (h.block i hi hn)⟩
theorem Turn.ofBelow {lo hi : Nat} {a b : World} (h : Below a.heap.size a b) : Turn lo hi a b := ⟨h.os, h.tape, h.output, h.size, fun k hk _ => h.block k hk⟩

/-- Both rows hold marks now. -/
def MkYPost (k lo hi : Nat) (A : Option Addr) (n c : Nat) (B : Option Addr) (m d : Nat) (w : World) (e : Ending) (w' : World) : Prop :=
  e = .returned (.int .i64 ((k + n + m : Nat) : Int)) ∧ TyO w' lo hi A n c B m d (marks k n) (marks (k + n) m) ∧ Turn lo hi w w'

theorem markY_any (k lo hi : Nat) (A : Option Addr) (n c : Nat) (B : Option Addr) (m d : Nat) (ss ts : List ByteArray) (s : ByteArray) (w : World) (h : TyO w lo hi A n c B m d ss ts) (hk1 : 1 ≤ k) (hk2 : k + n + m ≤ 100000000) :
    Calls Try.prog 10 #[tyV A n c B m d s, .int .i64 k] w (MkYPost k lo hi A n c B m d w) := by
  have h' := Lib.hid h
  clear h
  go_enter Try.func10, Try.ntmps10
  go_wp2_with fail
  have q0 := heap_alloc_new w (.cells #[.slice A n c, .slice B m d, .string s] 26)
  have hb0 : Below w.heap.size w (w.alloc (.cells #[.slice A n c, .slice B m d, .string s] 26)) := bb_alloc (Below.refl _ _) _
  have hz0 : (w.alloc (.cells #[.slice A n c, .slice B m d, .string s] 26)).heap.size = w.heap.size + 1 := by simp
  generalize w.alloc (.cells #[.slice A n c, .slice B m d, .string s] 26) = w0 at *
  have h0 := Lib.hid (h'.out.below hb0)
  have hb0' := Lib.hid hb0
  clear hb0
  refine (mark_any A n c lo k ss w0 h0.out.names hk1 (by omega)).mono ?_
  rintro e w1 ⟨rfl, own1, gr1⟩
  have k0 := (gr1.block w.heap.size (by omega) (fun e => by have := (h'.out.names.lt _ e.symm).2; omega)).trans q0
  have o2 := Lib.hid (own_same h0.out.types (fun j hj => gr1.block j (h0.out.types.lt j hj).2 (fun e => h'.out.apart j e.symm hj)))
  have T1 := Lib.hid ((Turn.ofBelow hb0'.out : Turn lo hi w w0).trans (gr_turn gr1 (fun k hk => ⟨(h'.out.names.lt k hk).1, h'.out.below1 k hk⟩)))
  have own1' := Lib.hid own1
  have hs1 := gr1.size
  obtain ⟨z0, a0, a1, a2, -, -, -⟩ := three_cells k0
  clear own1 gr1 q0 k0
  go_wp2_with fail
  have h2 := mark_any B m d lo (k + n) ts w1 o2.out (by omega) (by omega)
  refine Calls.mono h2 ?_
  rintro e w2 ⟨rfl, own2, gr2⟩
  have hfin : Hid (MkYPost k lo hi A n c B m d w (.returned (.int .i64 ((k + n + m : Nat) : Int))) w2) := by
    refine ⟨rfl, ⟨own_same own1'.out (fun j hj => gr2.block j (own1'.out.lt j hj).2 (fun e => h'.out.apart j hj e.symm)), own2, h'.out.apart, h'.out.below1, h'.out.below2⟩, T1.out.trans (gr_turn gr2 (fun k hk => ⟨(h'.out.types.lt k hk).1, h'.out.below2 k hk⟩))⟩
  clear own2 gr2
  go_wp2_with fail
  go_ret
  exact hfin.out

theorem heldY_any (k : Nat) (A : Option Addr) (n c : Nat) (B : Option Addr) (m d : Nat) (s : ByteArray) (w : World) (hA : RowS w A n (marks k n)) (hB : RowS w B m (marks (k + n) m)) (hk1 : 1 ≤ k) (hk2 : k + n + m ≤ 100000000) :
    Calls Try.prog 11 #[tyV A n c B m d s, .int .i64 k] w fun e w' => e = .returned (.int .i64 ((k + n + m : Nat) : Int)) ∧ Below w.heap.size w w' := by
  have h1 := Lib.hid (fun W (hW : Below w.heap.size w W) => held_any A n c k W (hA.below hW) hk1 (by omega))
  have h2 := Lib.hid (fun W (hW : Below w.heap.size w W) => held_any B m d (k + n) W (hB.below hW) (by omega) (by omega))
  clear hA hB
  go_enter Try.func11, Try.ntmps11
  go_wp2_with fail
  have q0 := heap_alloc_new w (.cells #[.slice A n c, .slice B m d, .string s] 26)
  have hb0 : Below w.heap.size w (w.alloc (.cells #[.slice A n c, .slice B m d, .string s] 26)) := bb_alloc (Below.refl _ _) _
  have hz0 : (w.alloc (.cells #[.slice A n c, .slice B m d, .string s] 26)).heap.size = w.heap.size + 1 := by simp
  generalize w.alloc (.cells #[.slice A n c, .slice B m d, .string s] 26) = w0 at *
  have hb0' := Lib.hid hb0
  clear hb0
  refine (h1.out w0 hb0'.out).mono ?_
  rintro e w1 ⟨rfl, hb1⟩
  obtain ⟨z0, a0, a1, a2, -, -, -⟩ := three_cells ((hb1.block w.heap.size (by omega)).trans q0)
  have hb1' := Lib.hid (below_step hb0'.out (Nat.le_refl _) hb1)
  clear hb1 q0
  go_wp2_with fail
  refine (h2.out w1 hb1'.out).mono ?_
  rintro e w2 ⟨rfl, hb2⟩
  have hb2' := Lib.hid (below_step hb1'.out (Nat.le_refl _) hb2)
  clear hb2
  go_wp2_with fail
  go_ret
  exact ⟨rfl, hb2'.out⟩

end Go.Proofs.Ytdbdcfijeeelkaa
