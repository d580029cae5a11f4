/- What it means that a struct's two cells hold a tree that was read ('TC'), that cells in a row hold its parts ('Kids'), and that this stays. -/
import Derived.Test.YtaagbnbekfogiaaGreatDoorBytes
import Derived.Test.YtaagbnbekfogiaaGreatDoorReadF
import Derived.Deep.AppendLies
import Derived.Lib.Hide
namespace Go.Proofs.YtaagbnbekfogiaaGreatDoor
set_option linter.unusedVariables false
open Go.RowKit

abbrev str (s : Bs) : Value := .string ⟨s.toArray⟩

mutual
/-- The text a and the slice (p, n, c) of parts hold the tree t; each block that this reads is one of D. -/
def TC (w : World) (D : Nat → Prop) : T → ByteArray → Option Addr → Nat → Nat → Prop
  | .atom s, a, p, n, c => s ≠ [] ∧ a = ⟨s.toArray⟩ ∧ p = none ∧ n = 0 ∧ c = 0
  | .node ps, a, p, n, c => a = ⟨#[]⟩ ∧ (n = ps.length ∧ n ≤ c) ∧ ∃ g xs, p = some ⟨g, 0, none⟩ ∧ D g ∧ Kids w D ps xs ∧ ∀ (j : Nat) (u : Value), xs[j]? = some u → w.cell? ⟨g, j, none⟩ = some u
def Kids (w : World) (D : Nat → Prop) : List T → List Value → Prop
  | [], xs => xs = []
  | t :: ps, xs => ∃ a p n c ys, xs = .string a :: .slice p n c :: ys ∧ TC w D t a p n c ∧ Kids w D ps ys
end

section
variable {w w' : World} {D D' : Nat → Prop}
mutual
theorem TC.keep (hw : ∀ g, D g → w'.heap[g]? = w.heap[g]?) (hD : ∀ g, D g → D' g) : ∀ (t : T) (a : ByteArray) (p : Option Addr) (n c : Nat), TC w D t a p n c → TC w' D' t a p n c
  | .atom s, _, _, _, _, h => by rw [TC] at h ⊢; exact h
  | .node ps, a, p, n, c, h => by
    rw [TC] at h ⊢
    obtain ⟨h0, h1, g, xs, hp, hg, hk, hc⟩ := h
    exact ⟨h0, h1, g, xs, hp, hD g hg, Kids.keep hw hD ps xs hk, fun j u hu => (World.cell?_of_block (a := ⟨g, j, none⟩) (hw g hg)).trans (hc j u hu)⟩
theorem Kids.keep (hw : ∀ g, D g → w'.heap[g]? = w.heap[g]?) (hD : ∀ g, D g → D' g) : ∀ (ps : List T) (xs : List Value), Kids w D ps xs → Kids w' D' ps xs
  | [], xs, h => by rw [Kids] at h ⊢; exact h
  | t :: ps, xs, h => by
    rw [Kids] at h ⊢
    obtain ⟨a, p, n, c, ys, hx, ht, hk⟩ := h
    exact ⟨a, p, n, c, ys, hx, TC.keep hw hD t a p n c ht, Kids.keep hw hD ps ys hk⟩
end

theorem Kids.snoc {t : T} {a : ByteArray} {p : Option Addr} {n c : Nat} (ht : TC w D t a p n c) : ∀ {ps : List T} {xs : List Value}, Kids w D ps xs → Kids w D (ps ++ [t]) (xs ++ [.string a, .slice p n c])
  | [], xs, h => by
    rw [Kids] at h
    subst h
    exact ⟨a, p, n, c, [], rfl, ht, rfl⟩
  | q :: ps, xs, h => by
    rw [Kids] at h
    obtain ⟨a', p', n', c', ys, rfl, hq, hk⟩ := h
    exact ⟨a', p', n', c', ys ++ [.string a, .slice p n c], rfl, hq, Kids.snoc ht hk⟩

theorem Kids.length : ∀ {ps : List T} {xs : List Value}, Kids w D ps xs → xs.length = ps.length * 2
  | [], xs, h => by rw [Kids] at h; subst h; rfl
  | q :: ps, xs, h => by
    rw [Kids] at h
    obtain ⟨a', p', n', c', ys, rfl, hq, hk⟩ := h
    have := Kids.length hk
    simp; omega

theorem Kids.at_ : ∀ {ps : List T} {xs : List Value} {i : Nat} {t : T}, Kids w D ps xs → ps[i]? = some t → ∃ a p n c, xs[i * 2]? = some (.string a) ∧ xs[i * 2 + 1]? = some (.slice p n c) ∧ TC w D t a p n c
  | [], xs, i, p, h, hi => by simp at hi
  | q :: ps, xs, i, t, h, hi => by
    rw [Kids] at h
    obtain ⟨a', p', n', c', ys, rfl, hq, hk⟩ := h
    cases i with
    | zero => simp at hi; subst hi; exact ⟨a', p', n', c', rfl, rfl, hq⟩
    | succ i =>
      obtain ⟨a, p, n, c, h0, h1, ht⟩ := Kids.at_ (i := i) hk (by simpa using hi)
      refine ⟨a, p, n, c, ?_, ?_, ht⟩
      · rw [show (i + 1) * 2 = i * 2 + 1 + 1 from by omega]; simpa using h0
      · rw [show (i + 1) * 2 + 1 = i * 2 + 1 + 1 + 1 from by omega]; simpa using h1
end

theorem Kids.oneCell {w : World} {D : Nat → Prop} : ∀ {ps : List T} {xs : List Value}, Kids w D ps xs → ∀ u ∈ xs, u.oneCell' = true
  | [], xs, h, u, hu => by rw [Kids] at h; subst h; cases hu
  | q :: ps, xs, h, u, hu => by
    rw [Kids] at h
    obtain ⟨a', p', n', c', ys, rfl, hq, hk⟩ := h
    simp at hu
    rcases hu with rfl | rfl | hu
    · rfl
    · rfl
    · exact Kids.oneCell hk u hu

/-- What can be read of a node: its parts, by their places. -/
theorem TC.part {w : World} {D : Nat → Prop} {ps : List T} {a : ByteArray} {p : Option Addr} {n c : Nat} (h : TC w D (.node ps) a p n c) : a = ⟨#[]⟩ ∧ n = ps.length ∧ ∃ g, p = some ⟨g, 0, none⟩ ∧ D g ∧
    ∀ (i : Nat) (t : T), ps[i]? = some t → ∃ a' p' n' c', w.cell? ⟨g, i * 2, none⟩ = some (.string a') ∧ w.cell? ⟨g, i * 2 + 1, none⟩ = some (.slice p' n' c') ∧ TC w D t a' p' n' c' := by
  rw [TC] at h
  obtain ⟨h0, h1, g, xs, hp, hg, hk, hc⟩ := h
  refine ⟨h0, h1.1, g, hp, hg, fun i t hi => ?_⟩
  obtain ⟨a', p', n', c', e0, e1, ht⟩ := Kids.at_ hk hi
  exact ⟨a', p', n', c', hc _ _ e0, hc _ _ e1, ht⟩
theorem TC.text {w : World} {D : Nat → Prop} {t : T} {a : ByteArray} {p : Option Addr} {n c : Nat} (h : TC w D t a p n c) : a.toList = atomOf t := by
  cases t with
  | atom s => rw [TC] at h; obtain ⟨_, rfl, _⟩ := h; rw [Lib.toList_data]; rfl
  | node ps => rw [TC] at h; obtain ⟨rfl, _⟩ := h; rw [Lib.toList_data]; rfl
theorem TC.is {w : World} {D : Nat → Prop} {t : T} {a : ByteArray} {p : Option Addr} {n c : Nat} (h : TC w D t a p n c) (s : Bs) : (a.toList == s) = decide (atomOf t = s) := by
  rw [h.text]; rw [Bool.eq_iff_iff]; simp

/-- The blocks that a call has made. -/
def New (lo : Nat) (w' : World) (g : Nat) : Prop := lo ≤ g ∧ g < w'.heap.size

theorem Below.drewN {B : Nat} {a w : World} (h : Below B a w) (n : Nat) : Below B a (w.drewN n) := ⟨h.os, h.tape, h.output, h.size, h.block⟩
theorem below_step {B : Nat} {W0 W w1 : World} (h : Below B W0 W) (hB : B ≤ W0.heap.size) (hb : Below W.heap.size W w1) : Below B W0 w1 := h.trans (hb.mono (Nat.le_trans hB h.size))
theorem keep0 {S : World → Prop} {w : World} {o : Obj} (h : ∀ W', Below (w.heap.size + 1) (w.alloc o) W' → S W') : S (w.alloc o).drew := h _ (Below.refl _ _).drew
theorem keep1 {S : World → Prop} {w w1 : World} {o : Obj} (h : ∀ W', Below (w.heap.size + 1) (w.alloc o) W' → S W') (h1 : Below (w.alloc o).drew.heap.size (w.alloc o).drew w1) : S w1 :=
  h _ (below_step (Below.refl _ _).drew (by simp) h1)
theorem keep2 {S : World → Prop} {w w1 w2 : World} {o : Obj} (h : ∀ W', Below (w.heap.size + 1) (w.alloc o) W' → S W') (h1 : Below (w.alloc o).drew.heap.size (w.alloc o).drew w1) (h2 : Below w1.heap.size w1 w2) : S w2 :=
  h _ (below_step (below_step (Below.refl _ _).drew (by simp) h1) (by simp) h2)
theorem below_grown {w w' : World} (h : Below w.heap.size w w') (row : Option Nat) : w.grownBy w' row := ⟨h.os, h.tape, h.output, h.size, fun k hk _ => h.block k hk⟩
theorem own_below {w w' : World} {base : Nat} {E : TypeId} {size : Nat} {v : Value} {n : Nat} {xs : List Value} (h : w.ownsRow base E size v n xs) (hb : Below w.heap.size w w') : w'.ownsRow base E size v n xs :=
  h.kept (below_grown hb none) (by cases v.ownBlock <;> simp)
theorem TC.below {w w' : World} {D : Nat → Prop} {t : T} {a : ByteArray} {p : Option Addr} {n c : Nat} (h : TC w D t a p n c) (hb : Below w.heap.size w w') (hD : ∀ g, D g → g < w.heap.size) : TC w' D t a p n c :=
  TC.keep (fun g hg => hb.block g (hD g hg)) (fun _ h => h) _ _ _ _ _ h

/-- One part more is appended to a row of the call's own: the parts that were there are kept, and so is the new one. -/
theorem kids_step {lo : Nat} {wr w1 W w2 : World} {base : Nat} {E : TypeId} {v : Value} {n m cap : Nat} {xs : List Value} {acc : List T} {t : T} {a : ByteArray} {p : Option Addr} {l c g : Nat}
    (hwr : lo ≤ wr.heap.size) (own : wr.ownsRow base E 2 v n xs) (kids : Kids wr (fun g => New lo wr g ∧ v.ownBlock ≠ some g) acc xs)
    (hb1 : Below wr.heap.size wr w1) (htc : TC w1 (New wr.heap.size w1) t a p l c) (hW : Below w1.heap.size w1 W) (hgrow : W.grownBy w2 v.ownBlock)
    (hat : v.ownBlock = some g ∨ g = W.heap.size) :
    Kids w2 (fun g' => New lo w2 g' ∧ (Value.slice (some ⟨g, 0, none⟩) m cap).ownBlock ≠ some g') (acc ++ [t]) (xs ++ [.string a, .slice p l c]) := by
  have s1 := hb1.size
  have s2 := hW.size
  have s3 := hgrow.size
  refine Kids.snoc ?_ ?_
  · refine TC.keep (fun g' hg => ?_) (fun g' hg => ?_) _ _ _ _ _ htc
    · obtain ⟨h1, h2⟩ := hg
      rw [hgrow.block g' (by omega) (fun e => ?_), hW.block g' (by omega)]
      have := own.lt g' e.symm
      omega
    · obtain ⟨h1, h2⟩ := hg
      refine ⟨⟨by omega, by omega⟩, fun e => ?_⟩
      have e' : g = g' := by simpa [Value.ownBlock] using e
      subst e'
      rcases hat with hat | hat
      · have := own.lt g hat
        omega
      · omega
  · refine Kids.keep (fun g' hg => ?_) (fun g' hg => ?_) _ _ kids
    · obtain ⟨⟨h1, h2⟩, h3⟩ := hg
      rw [hgrow.block g' (by omega) (fun e => h3 e.symm), hW.block g' (by omega), hb1.block g' h2]
    · obtain ⟨⟨h1, h2⟩, h3⟩ := hg
      refine ⟨⟨h1, by omega⟩, fun e => ?_⟩
      have e' : g = g' := by simpa [Value.ownBlock] using e
      subst e'
      rcases hat with hat | hat
      · exact h3 hat
      · omega

theorem first_alloc (w : World) (X Y : Obj) : ((w.alloc X).alloc Y).heap[w.heap.size]? = some X :=
  (Below.heap_alloc (w.alloc X) Y w.heap.size (by simp)).trans (heap_alloc_new w X)
theorem second_alloc (w : World) (X Y : Obj) : ((w.alloc X).alloc Y).heap[w.heap.size + 1]? = some Y := by
  have h := heap_alloc_new (w.alloc X) Y
  rw [show (w.alloc X).heap.size = w.heap.size + 1 from by simp] at h
  exact h

theorem own_form {w : World} {base : Nat} {E : TypeId} {size : Nat} {v : Value} {n : Nat} {xs : List Value} (h : w.ownsRow base E size v n xs) : ∃ A m c, v = .slice A m c := by
  rcases h.2 with ⟨rfl, _⟩ | ⟨g, cap, _, rfl, _⟩
  · exact ⟨_, _, _, rfl⟩
  · exact ⟨_, _, _, rfl⟩

/-- Two cells of one block are written, a block is new: the others are as they were. -/
theorem same_set (w : World) (b : Nat) (u v : Value) (j : Nat) (hj : j ≠ b) : ((w.setCell ⟨b, 0, none⟩ u).setCell ⟨b, 1, none⟩ v).heap[j]? = w.heap[j]? := by
  rw [Below.heap_setCell _ _ _ _ hj, Below.heap_setCell _ _ _ _ hj]
theorem same_set_alloc (w : World) (b : Nat) (u v : Value) (o : Obj) (j : Nat) (hj : j ≠ b) (hlt : j < w.heap.size) : (((w.setCell ⟨b, 0, none⟩ u).setCell ⟨b, 1, none⟩ v).alloc o).heap[j]? = w.heap[j]? := by
  rw [Below.heap_alloc _ _ _ (by simpa using hlt), same_set _ _ _ _ _ hj]

theorem keep_set {w : World} {b r : Nat} {u v x y : Value} (h : w.cell? ⟨b, 0, none⟩ = some x ∧ w.cell? ⟨b, 1, none⟩ = some y) (hne : b ≠ r) :
    ((w.setCell ⟨r, 0, none⟩ u).setCell ⟨r, 1, none⟩ v).cell? ⟨b, 0, none⟩ = some x ∧ ((w.setCell ⟨r, 0, none⟩ u).setCell ⟨r, 1, none⟩ v).cell? ⟨b, 1, none⟩ = some y :=
  ⟨(World.cell?_of_block (a := ⟨b, 0, none⟩) (same_set w r u v b hne)).trans h.1, (World.cell?_of_block (a := ⟨b, 1, none⟩) (same_set w r u v b hne)).trans h.2⟩

theorem bb_alloc {w0 W : World} (h : Below w0.heap.size w0 W) (o : Obj) : Below w0.heap.size w0 (W.alloc o) := h.alloc h.size o
theorem TC.up {w1 w2 : World} {t : T} {a : ByteArray} {p : Option Addr} {n c : Nat} (h : TC w1 (fun g => g < w1.heap.size) t a p n c) (hb : Below w1.heap.size w1 w2) : TC w2 (fun g => g < w2.heap.size) t a p n c :=
  TC.keep (fun g hg => hb.block g hg) (fun _ hg => Nat.lt_of_lt_of_le hg hb.size) _ _ _ _ _ h
theorem block_cells {w : World} {g : Nat} {cs : Array Value} {E : TypeId} {fr : Nat × Nat} (h : w.heap[g]? = some (.cells cs E fr)) (j : Nat) (u : Value) (hu : cs.toList[j]? = some u) : w.cell? ⟨g, j, none⟩ = some u := by
  rw [cell_of_row w g j cs E fr h]
  simpa using hu

/-- The blocks of D, and the new ones from lo on. -/
def DN (D : Nat → Prop) (lo : Nat) (W : World) (g : Nat) : Prop := D g ∨ (lo ≤ g ∧ g < W.heap.size)
theorem TC.dn {w1 w2 : World} {D : Nat → Prop} {lo lo1 : Nat} {t : T} {a : ByteArray} {p : Option Addr} {n c : Nat} (h : TC w1 (DN D lo1 w1) t a p n c) (hl : lo ≤ lo1) (hD : ∀ g, D g → g < w1.heap.size) (hb : Below w1.heap.size w1 w2) : TC w2 (DN D lo w2) t a p n c :=
  TC.keep (fun g hg => hb.block g (by rcases hg with hg | hg; exact hD g hg; exact hg.2)) (fun g hg => by rcases hg with hg | hg; exact .inl hg; exact .inr ⟨by omega, Nat.lt_of_lt_of_le hg.2 hb.size⟩) _ _ _ _ _ h

theorem dn_ltD {D : Nat → Prop} {w0 W : World} (hD : ∀ g, D g → g < w0.heap.size) (hb : Below w0.heap.size w0 W) : ∀ g, D g → g < W.heap.size := fun g hg => Nat.lt_of_lt_of_le (hD g hg) hb.size
theorem dn_lt {D : Nat → Prop} {lo : Nat} {w0 W : World} (hD : ∀ g, D g → g < w0.heap.size) (hb : Below w0.heap.size w0 W) : ∀ g, DN D lo W g → g < W.heap.size := fun g hg => by
  rcases hg with hg | hg
  · exact Nat.lt_of_lt_of_le (hD g hg) hb.size
  · exact hg.2

/-- The world W is w0 but for block r and what is new. -/
structure SB (w0 : World) (r : Nat) (W : World) : Prop where
  size : w0.heap.size ≤ W.heap.size
  block : ∀ j, j < w0.heap.size → j ≠ r → W.heap[j]? = w0.heap[j]?
theorem sb_refl (w0 : World) (r : Nat) : SB w0 r w0 := ⟨Nat.le_refl _, fun _ _ _ => rfl⟩
section
variable {w0 W w1 : World} {r : Nat}
theorem sb_drew (h : SB w0 r W) : SB w0 r W.drew := ⟨h.size, h.block⟩
theorem sb_alloc (h : SB w0 r W) (o : Obj) : SB w0 r (W.alloc o) :=
  ⟨Nat.le_trans h.size (by simp), fun j hj hr => (Below.heap_alloc W o j (Nat.lt_of_lt_of_le hj h.size)).trans (h.block j hj hr)⟩
theorem sb_set (h : SB w0 r W) (o : Nat) (v : Value) : SB w0 r (W.setCell ⟨r, o, none⟩ v) :=
  ⟨by simpa using h.size, fun j hj hr => (Below.heap_setCell W _ v j hr).trans (h.block j hj hr)⟩
theorem sb_step (h : SB w0 r W) (hb : Below W.heap.size W w1) : SB w0 r w1 :=
  ⟨Nat.le_trans h.size hb.size, fun j hj hr => (hb.block j (Nat.lt_of_lt_of_le hj h.size)).trans (h.block j hj hr)⟩
theorem SB.cell (h : SB w0 r W) {b o : Nat} (hb : b < w0.heap.size) (hr : b ≠ r) : W.cell? ⟨b, o, none⟩ = w0.cell? ⟨b, o, none⟩ := World.cell?_of_block (a := ⟨b, o, none⟩) (h.block b hb hr)
theorem SB.tc (h : SB w0 r W) {D : Nat → Prop} {t : T} {a : ByteArray} {p : Option Addr} {n c : Nat} (ht : TC w0 D t a p n c) (hD : ∀ g, D g → g < w0.heap.size ∧ g ≠ r) : TC W D t a p n c :=
  TC.keep (fun g hg => h.block g (hD g hg).1 (hD g hg).2) (fun _ h => h) _ _ _ _ _ ht
end

/-- A row of the call's own is kept where its block is. -/
theorem own_same {w w' : World} {base : Nat} {E : TypeId} {size : Nat} {v : Value} {n : Nat} {xs : List Value} (h : w.ownsRow base E size v n xs) (hs : ∀ j, v.ownBlock = some j → w'.heap[j]? = w.heap[j]?) : w'.ownsRow base E size v n xs := by
  refine ⟨h.1, ?_⟩
  rcases h.2 with h2 | ⟨g, cap, cur, rfl, hb, hh, r⟩
  · exact .inl h2
  · exact .inr ⟨g, cap, cur, rfl, hb, by rw [hs g rfl]; exact hh, r⟩
theorem set_second {w : World} {b : Nat} {x y z : Value} {E : TypeId} (h : w.heap[b]? = some (.cells #[x, y] E (0, 0))) : (w.setCell ⟨b, 1, none⟩ z).heap[b]? = some (.cells #[x, z] E (0, 0)) := by
  simp [World.setCell, Array.getElem?_modify, h]

/-- A block of two cells that is known whole. -/
theorem two_cells {w : World} {b : Nat} {x y : Value} {E : TypeId} (h : w.heap[b]? = some (.cells #[x, y] E (0, 0))) :
    b < w.heap.size ∧ w.cell? ⟨b, 0, none⟩ = some x ∧ w.cell? ⟨b, 1, none⟩ = some y ∧ w.frozen? ⟨b, 0, none⟩ = false ∧ w.frozen? ⟨b, 1, none⟩ = false := by
  refine ⟨?_, by simp [World.cell?, h], by simp [World.cell?, h], by simp [World.frozen?, h], by simp [World.frozen?, h]⟩
  rcases Nat.lt_or_ge b w.heap.size with hl | hg
  · exact hl
  · rw [Array.getElem?_eq_none hg] at h; cases h

/-- A row of the call's own whose parts are known is a node. -/
theorem own_cap {w : World} {base : Nat} {E : TypeId} {size : Nat} {A : Option Addr} {m cap n : Nat} {xs : List Value} (h : w.ownsRow base E size (.slice A m cap) n xs) : m ≤ cap := by
  rcases h.2 with ⟨e, _⟩ | ⟨g, c, cur, e, _, _, h1, _⟩
  · injection e with _ h1 h2; omega
  · injection e with _ h1 h2; omega
theorem TC.cap {w : World} {D : Nat → Prop} {ps : List T} {a : ByteArray} {p : Option Addr} {n c : Nat} (h : TC w D (.node ps) a p n c) : n ≤ c := by
  rw [TC] at h
  exact h.2.1.2
theorem tc_node {lo : Nat} {wr : World} {base : Nat} {E : TypeId} {g cap n : Nat} {xs : List Value} {acc : List T} (hb : lo ≤ base)
    (own : wr.ownsRow base E 2 (.slice (some ⟨g, 0, none⟩) n cap) n xs) (hn : acc.length = n)
    (kids : Kids wr (fun g' => New lo wr g' ∧ (Value.slice (some ⟨g, 0, none⟩) n cap).ownBlock ≠ some g') acc xs) : TC wr (New lo wr) (.node acc) ⟨#[]⟩ (some ⟨g, 0, none⟩) n cap := by
  have hl := own.lt g rfl
  refine ⟨rfl, ⟨hn.symm, own_cap own⟩, g, xs, rfl, ⟨by omega, hl.2⟩, Kids.keep (fun _ _ => rfl) (fun _ h => h.1) _ _ kids, fun j u hu => ?_⟩
  have h := own.cells (g := g) rfl j u hu
  unfold Addr.add at h
  split at h
  · simp_all
  · simpa using h

end Go.Proofs.YtaagbnbekfogiaaGreatDoor
