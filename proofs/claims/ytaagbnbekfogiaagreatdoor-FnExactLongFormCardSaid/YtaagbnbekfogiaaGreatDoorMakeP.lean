/- What is read is a program or none: plain mathematics, and rows of programs in memory. impl.makeBinder. impl.makeForm. impl.makeProgram and impl.readProgram. -/
import Derived.Test.YtaagbnbekfogiaaGreatDoorKind
namespace Go.Proofs.YtaagbnbekfogiaaGreatDoor
set_option linter.unusedVariables false
open Go.RowKit

def headOf1 : List T → Bs
  | [] => []
  | x :: _ => atomOf x

/-- The parts are all programs of the kinds that the head asks. -/
def fits (h : Bs) (ts : List T) : Option (List P) := match shapeL h with
  | none => none
  | some (_, _, ks) => if ts.length = ks.length then (ts.zip ks).mapM fun (t, k) => (toP t).bind fun p => if p.kind = k then some p else none else none

theorem toP_form {x : T} {ts : List T} (hm : isMu (atomOf x) = false) {d : Bs} {k : K} {ks : List K} (hs : shapeL (atomOf x) = some (k, d, ks)) (hl : ts.length = ks.length) {qs : List P}
    (hq : ts.map toP = qs.map some) (hk : qs.map P.kind = ks) : ∃ p, toP (.node (x :: ts)) = some p ∧ IsForm p (atomOf x) qs := by
  rcases shape_some hs with ⟨l, rfl, h1, -⟩ | ⟨l, m, rfl, h2, -⟩
  · match ts, qs, hl, hq, hk with
    | [t], [q], _, hq, hk =>
      simp at hq hk
      refine ⟨.f1 (atomOf x) q, ?_, rfl, rfl⟩
      rw [toP_two, hm, if_neg (by decide), hq, mk1, h1]
      simp [hk]
    | [t], [], _, hq, _ => simp at hq
    | [t], _ :: _ :: _, _, hq, _ => simp at hq
  · match ts, qs, hl, hq, hk with
    | [t, u], [q, r], _, hq, hk =>
      simp at hq hk
      refine ⟨.f2 (atomOf x) q r, ?_, rfl, rfl⟩
      rw [toP_three, hm, if_neg (by decide), hq.1, hq.2, mk2, h2]
      simp [hk]
    | [t, u], [], _, hq, _ => simp at hq
    | [t, u], [_], _, hq, _ => simp at hq
    | [t, u], _ :: _ :: _ :: _, _, hq, _ => simp at hq

theorem toP_len {x : T} {ts : List T} (hm : isMu (atomOf x) = false) {d : Bs} {k : K} {ks : List K} (hs : shapeL (atomOf x) = some (k, d, ks)) (hl : ts.length ≠ ks.length) : toP (.node (x :: ts)) = none := by
  rcases shape_some hs with ⟨l, rfl, h1, h2⟩ | ⟨l, m, rfl, h2, h1⟩
  · match ts, hl with
    | [], _ => exact toP_one x
    | [t], hl => simp at hl
    | [t, u], _ => rw [toP_three, hm, if_neg (by decide)]; cases toP t <;> cases toP u <;> simp [mk2, h2]
    | _ :: _ :: _ :: _, _ => exact toP_many ..
  · match ts, hl with
    | [], _ => exact toP_one x
    | [t], _ => rw [toP_two, hm, if_neg (by decide)]; cases toP t <;> simp [mk1, h1]
    | [t, u], hl => simp at hl
    | _ :: _ :: _ :: _, _ => exact toP_many ..
theorem toP_head {x : T} {ts : List T} (hm : isMu (atomOf x) = false) (hs : shapeL (atomOf x) = none) : toP (.node (x :: ts)) = none := by
  obtain ⟨h1, h2⟩ := shape_none hs
  match ts with
  | [] => exact toP_one x
  | [t] => rw [toP_two, hm, if_neg (by decide)]; cases toP t <;> simp [mk1, h1]
  | [t, u] => rw [toP_three, hm, if_neg (by decide)]; cases toP t <;> cases toP u <;> simp [mk2, h2]
  | _ :: _ :: _ :: _ => exact toP_many ..
theorem toP_part {x : T} {ts : List T} (hm : isMu (atomOf x) = false) {d : Bs} {k : K} {ks : List K} (hs : shapeL (atomOf x) = some (k, d, ks)) (hl : ts.length = ks.length) {i : Nat} {t : T} {l : K}
    (ht : ts[i]? = some t) (hk : ks[i]? = some l) (hb : ∀ p, toP t = some p → p.kind ≠ l) : toP (.node (x :: ts)) = none := by
  rcases shape_some hs with ⟨a, rfl, h1, -⟩ | ⟨a, b, rfl, h2, -⟩
  · match ts, hl, i, ht, hk with
    | [u], _, 0, ht, hk =>
      simp at ht hk; subst ht; subst hk
      rw [toP_two, hm, if_neg (by decide)]
      cases hp : toP u with
      | none => rfl
      | some p => simp [mk1, h1, hb p hp]
    | [u], _, i + 1, ht, hk => simp at ht
  · match ts, hl, i, ht, hk with
    | [u, v], _, 0, ht, hk =>
      simp at ht hk; subst ht; subst hk
      rw [toP_three, hm, if_neg (by decide)]
      cases hp : toP u with
      | none => cases toP v <;> rfl
      | some p =>
        cases hq : toP v with
        | none => rfl
        | some q => simp [mk2, h2, hb p hp]
    | [u, v], _, 1, ht, hk =>
      simp at ht hk; subst ht; subst hk
      rw [toP_three, hm, if_neg (by decide)]
      cases hp : toP v with
      | none => cases toP u <;> rfl
      | some p =>
        cases hq : toP u with
        | none => rfl
        | some q => simp [mk2, h2, hb p hp]
    | [u, v], _, i + 2, ht, hk => simp at ht

/-- A row of programs. -/
def PRow (w : World) (D : Nat → Prop) : List P → List Value → Prop
  | [], xs => xs = []
  | q :: qs, xs => ∃ y ys, xs = .iface (pt q) y :: ys ∧ PI w D q y ∧ PRow w D qs ys
section
variable {w w' : World} {D D' : Nat → Prop}
theorem PRow.keep (hw : ∀ g, D g → w'.heap[g]? = w.heap[g]?) (hD : ∀ g, D g → D' g) : ∀ {qs : List P} {xs : List Value}, PRow w D qs xs → PRow w' D' qs xs
  | [], xs, h => h
  | q :: qs, xs, ⟨y, ys, hx, hp, hr⟩ => ⟨y, ys, hx, PI.keep hw hD _ _ hp, PRow.keep hw hD hr⟩
theorem PRow.snoc {q : P} {y : Value} (hq : PI w D q y) : ∀ {qs : List P} {xs : List Value}, PRow w D qs xs → PRow w D (qs ++ [q]) (xs ++ [.iface (pt q) y])
  | [], xs, h => by
    have h' : xs = [] := h
    subst h'
    exact ⟨y, [], rfl, hq, rfl⟩
  | r :: qs, xs, ⟨z, zs, hx, hr, hrs⟩ => by
    subst hx
    exact ⟨z, zs ++ [.iface (pt q) y], rfl, hr, PRow.snoc hq hrs⟩
theorem PRow.length : ∀ {qs : List P} {xs : List Value}, PRow w D qs xs → xs.length = qs.length
  | [], xs, h => by
    have h' : xs = [] := h
    subst h'; rfl
  | r :: qs, xs, ⟨z, zs, hx, hr, hrs⟩ => by subst hx; simp [PRow.length hrs]
theorem PRow.at_ : ∀ {qs : List P} {xs : List Value} {i : Nat} {q : P}, PRow w D qs xs → qs[i]? = some q → ∃ y, xs[i]? = some (.iface (pt q) y) ∧ PI w D q y
  | [], xs, i, q, h, hi => by simp at hi
  | r :: qs, xs, 0, q, ⟨z, zs, hx, hr, hrs⟩, hi => by simp at hi; subst hi; exact ⟨z, by rw [hx]; rfl, hr⟩
  | r :: qs, xs, i + 1, q, ⟨z, zs, hx, hr, hrs⟩, hi => by
    obtain ⟨y, h1, h2⟩ := PRow.at_ (i := i) hrs (by simpa using hi)
    exact ⟨y, by rw [hx]; simpa using h1, h2⟩
end

theorem prow_step {lo : Nat} {wr w1 W w2 : World} {base : Nat} {E : TypeId} {v : Value} {n m cap : Nat} {xs : List Value} {qs : List P} {q : P} {y : Value} {g : Nat}
    (hwr : lo ≤ wr.heap.size) (own : wr.ownsRow base E 1 v n xs) (kids : PRow wr (fun g => New lo wr g ∧ v.ownBlock ≠ some g) qs xs)
    (hb1 : Below wr.heap.size wr w1) (hq : PI w1 (New wr.heap.size w1) q y) (hW : Below w1.heap.size w1 W) (hgrow : W.grownBy w2 v.ownBlock)
    (hat : v.ownBlock = some g ∨ g = W.heap.size) :
    PRow w2 (fun g' => New lo w2 g' ∧ (Value.slice (some ⟨g, 0, none⟩) m cap).ownBlock ≠ some g') (qs ++ [q]) (xs ++ [.iface (pt q) y]) := by
  have s1 := hb1.size
  have s2 := hW.size
  have s3 := hgrow.size
  refine PRow.snoc ?_ ?_
  · refine PI.keep (fun g' hg => ?_) (fun g' hg => ?_) _ _ hq
    · obtain ⟨h1, h2⟩ := hg
      rw [hgrow.block g' (by omega) (fun e => ?_), hW.block g' (by omega)]
      have := own.lt g' e.symm
      omega
    · obtain ⟨h1, h2⟩ := hg
      refine ⟨⟨by omega, by omega⟩, fun e => ?_⟩
      have e' : g = g' := by simpa [Value.ownBlock] using e
      subst e'
      rcases hat with hat | hat
      · have := own.lt g hat
        omega
      · omega
  · refine PRow.keep (fun g' hg => ?_) (fun g' hg => ?_) kids
    · obtain ⟨⟨h1, h2⟩, h3⟩ := hg
      rw [hgrow.block g' (by omega) (fun e => h3 e.symm), hW.block g' (by omega), hb1.block g' h2]
    · obtain ⟨⟨h1, h2⟩, h3⟩ := hg
      refine ⟨⟨h1, by omega⟩, fun e => ?_⟩
      have e' : g = g' := by simpa [Value.ownBlock] using e
      subst e'
      rcases hat with hat | hat
      · exact h3 hat
      · omega

theorem infoProgram : (Tryz.prog.info? 36).map (fun i => (i.zero, i.size, i.bytes)) = some (some .nilIface, 1, 16) := by kernel_rfl

/-- A program or none is handed back. -/
def MPost (o : Option P) (w : World) (e : Ending) (w' : World) : Prop :=
  Below w.heap.size w w' ∧ match o with
    | none => e = .returned (.tuple #[.nilIface, .bool false])
    | some p => ∃ y, e = .returned (.tuple #[.iface (pt p) y, .bool true]) ∧ PI w' (New w.heap.size w') p y

def MP (k : Nat) : Prop := ∀ (t : T) (w : World) (D : Nat → Prop) (a : ByteArray) (p : Option Addr) (n c : Nat), t.sz ≤ k → TC w D t a p n c → (∀ g, D g → g < w.heap.size) →
  Calls Tryz.prog 80 #[.agg #[.string a, .slice p n c]] w (MPost (toP t) w)

theorem toP_ok {t : T} {p : P} (h : toP t = some p) : p.ok = true := (toP_tree h).2

theorem MP.yes {k : Nat} (h : MP k) {t : T} {p : P} (hf : toP t = some p) (w : World) {D : Nat → Prop} {a : ByteArray} {A : Option Addr} {n c : Nat} (hk : t.sz ≤ k) (ht : TC w D t a A n c) (hD : ∀ g, D g → g < w.heap.size) :
    Calls Tryz.prog 80 #[.agg #[.string a, .slice A n c]] w fun e w' => ∃ y, e = .returned (.tuple #[.iface (pt p) y, .bool true]) ∧ Below w.heap.size w w' ∧ PI w' (New w.heap.size w') p y :=
  (h t w D a A n c hk ht hD).mono fun e w' ⟨hb, he⟩ => by
    rw [hf] at he
    obtain ⟨y, he, hp⟩ := he
    exact ⟨y, he, hb, hp⟩
theorem MP.not {k : Nat} (h : MP k) {t : T} (hf : toP t = none) (w : World) {D : Nat → Prop} {a : ByteArray} {A : Option Addr} {n c : Nat} (hk : t.sz ≤ k) (ht : TC w D t a A n c) (hD : ∀ g, D g → g < w.heap.size) :
    Calls Tryz.prog 80 #[.agg #[.string a, .slice A n c]] w fun e w' => e = .returned (.tuple #[.nilIface, .bool false]) ∧ Below w.heap.size w w' :=
  (h t w D a A n c hk ht hD).mono fun e w' ⟨hb, he⟩ => by
    rw [hf] at he
    exact ⟨he, hb⟩

/-- The parts of a slice that begins at cell o of block g. -/
def Parts (w : World) (D : Nat → Prop) (g o : Nat) (ts : List T) : Prop :=
  ∀ (i : Nat) (t : T), ts[i]? = some t → ∃ a p n c, w.cell? ⟨g, o + i * 2, none⟩ = some (.string a) ∧ w.cell? ⟨g, o + i * 2 + 1, none⟩ = some (.slice p n c) ∧ TC w D t a p n c

theorem TC.textB {w : World} {D : Nat → Prop} {t : T} {a : ByteArray} {p : Option Addr} {n c : Nat} (h : TC w D t a p n c) : a = ⟨(atomOf t).toArray⟩ := by
  cases t with
  | atom s => rw [TC] at h; obtain ⟨_, rfl, _⟩ := h; rfl
  | node ps => rw [TC] at h; obtain ⟨rfl, _⟩ := h; rfl

theorem headB_any (c : UInt8) (d : Bs) (V : Value) (w : World) :
    Calls Tryz.prog 110 #[.agg #[.int .u8 c.toNat, str d, V]] w fun e w' => e = .returned (str (bhead (c :: d))) ∧ Below w.heap.size w w' := by
  cases hv : varB c
  · rw [show bhead (c :: d) = [109, 117] from by simp [bhead, firstIs, hv, muB]]
    go_enter Tryz.func110, Tryz.ntmps110
    go_wp2_with (go_at_call 100; refine Calls.mono (isVariable_any c d _) ?_; rintro e w1 ⟨rfl, hb1⟩)
    go_ret
    exact ⟨rfl, below_step (by repeat (with_reducible first | exact hbel | exact Below.refl _ _ | refine Below.drew ?_ | refine Below.drewN ?_ _ | refine Below.alloc ?_ (by first | (simp; done) | (simp; omega) | omega | (have := Below.size hbel; simp; omega) | (have := Below.size hbel; omega)) _ | refine Below.setCell ?_ (by first | (simp; done) | (simp; omega) | omega) _)) (by simp) hb1⟩
  · rw [show bhead (c :: d) = [116, 109, 117] from by simp [bhead, firstIs, hv, tmuB]]
    go_enter Tryz.func110, Tryz.ntmps110
    go_wp2_with (go_at_call 100; refine Calls.mono (isVariable_any c d _) ?_; rintro e w1 ⟨rfl, hb1⟩)
    go_ret
    exact ⟨rfl, below_step (by repeat (with_reducible first | exact hbel | exact Below.refl _ _ | refine Below.drew ?_ | refine Below.drewN ?_ _ | refine Below.alloc ?_ (by first | (simp; done) | (simp; omega) | omega | (have := Below.size hbel; simp; omega) | (have := Below.size hbel; omega)) _ | refine Below.setCell ?_ (by first | (simp; done) | (simp; omega) | omega) _)) (by simp) hb1⟩

theorem leaf_any (c : UInt8) (d : Bs) (w : World) :
    Calls Tryz.prog 96 #[nameV c d] w fun e w' => e = .returned (.iface (pt (.nm (c :: d))) (nameV c d)) ∧ Below w.heap.size w w' := by
  cases hv : varB c
  · rw [show pt (.nm (c :: d)) = 44 from by simp [pt, firstIs, hv]]
    go_enter Tryz.func96, Tryz.ntmps96
    go_wp2_with fail
    refine Calls.mono (isVariable_any c d _) ?_
    rintro e w1 ⟨rfl, hb1⟩
    obtain ⟨z0, r0, r1, -, -⟩ := two_cells ((hb1.block w.heap.size (by simp)).trans (heap_alloc_new w _))
    rw [hv]
    go_wp2_with fail
    go_ret
    exact ⟨rfl, below_step (by repeat (with_reducible first | exact hbel | exact Below.refl _ _ | refine Below.drew ?_ | refine Below.drewN ?_ _ | refine Below.alloc ?_ (by first | (simp; done) | (simp; omega) | omega | (have := Below.size hbel; simp; omega) | (have := Below.size hbel; omega)) _ | refine Below.setCell ?_ (by first | (simp; done) | (simp; omega) | omega) _)) (by simp) hb1⟩
  · rw [show pt (.nm (c :: d)) = 47 from by simp [pt, firstIs, hv]]
    go_enter Tryz.func96, Tryz.ntmps96
    go_wp2_with fail
    refine Calls.mono (isVariable_any c d _) ?_
    rintro e w1 ⟨rfl, hb1⟩
    obtain ⟨z0, r0, r1, -, -⟩ := two_cells ((hb1.block w.heap.size (by simp)).trans (heap_alloc_new w _))
    rw [hv]
    go_wp2_with fail
    go_ret
    exact ⟨rfl, below_step (by repeat (with_reducible first | exact hbel | exact Below.refl _ _ | refine Below.drew ?_ | refine Below.drewN ?_ _ | refine Below.alloc ?_ (by first | (simp; done) | (simp; omega) | omega | (have := Below.size hbel; simp; omega) | (have := Below.size hbel; omega)) _ | refine Below.setCell ?_ (by first | (simp; done) | (simp; omega) | omega) _)) (by simp) hb1⟩

end Go.Proofs.YtaagbnbekfogiaaGreatDoor

namespace Go.Proofs.YtaagbnbekfogiaaGreatDoor
set_option linter.unusedVariables false
open Go.RowKit

def binderO (h : Bs) : List T → Option P
  | [a, b] => mkb h (atomOf a) (toP b)
  | _ => none

theorem binder_len (h : Bs) {ts : List T} (hl : ts.length ≠ 2) : binderO h ts = none := by
  match ts, hl with
  | [], _ => rfl
  | [_], _ => rfl
  | [_, _], hl => simp at hl
  | _ :: _ :: _ :: _, _ => rfl
theorem binder_name {h : Bs} {a b : T} (hn : isName (atomOf a) = false) : binderO h [a, b] = none := by
  show mkb h (atomOf a) (toP b) = none
  cases toP b <;> simp [mkb, hn]
theorem binder_body {h : Bs} {a b : T} (hn : toP b = none) : binderO h [a, b] = none := by
  show mkb h (atomOf a) (toP b) = none
  rw [hn]; rfl
theorem binder_kind {h : Bs} {a b : T} {p : P} (hp : toP b = some p) (hn : p.kind ≠ .s) : binderO h [a, b] = none := by
  show mkb h (atomOf a) (toP b) = none
  rw [hp]; simp [mkb, hn]
theorem binder_head {h : Bs} {a b : T} (hn : bhead (atomOf a) ≠ h) : binderO h [a, b] = none := by
  show mkb h (atomOf a) (toP b) = none
  cases toP b <;> simp [mkb, hn]
theorem binder_yes {h : Bs} {a b : T} {p : P} (hp : toP b = some p) (hn : isName (atomOf a) = true) (hk : p.kind = .s) (hh : bhead (atomOf a) = h) : binderO h [a, b] = some (.bd (atomOf a) p) := by
  show mkb h (atomOf a) (toP b) = _
  rw [hp]; simp [mkb, hn, hk, hh]

theorem kname_s (k : K) : ((⟨k.name.toArray⟩ : ByteArray).toList == [115, 116, 97, 116, 101, 109, 101, 110, 116]) = decide (k = .s) := by
  rw [Lib.toList_data]; cases k <;> decide
theorem str_list (s : Bs) : (⟨s.toArray⟩ : ByteArray).toList = s := by rw [Lib.toList_data]

theorem NPost.out {a : ByteArray} {w w' : World} {e : Ending} (h : NPost a w e w') {s : Bs} (hs : a = ⟨s.toArray⟩) :
    Below w.heap.size w w' ∧ ((isName s = false ∧ e = .returned (.tuple #[.agg #[.int .u8 0, .string ⟨#[]⟩], .bool false])) ∨ (isName s = true ∧ ∃ c d, s = c :: d ∧ e = .returned (.tuple #[.agg #[.int .u8 c.toNat, .string ⟨d.toArray⟩], .bool true]))) := by
  obtain ⟨he, hb⟩ := h
  refine ⟨hb, ?_⟩
  subst hs
  rw [show (⟨s.toArray⟩ : ByteArray).data.toList = s from rfl] at he
  cases hn : isName s
  · rw [hn] at he; exact .inl ⟨rfl, he⟩
  · rw [hn] at he
    cases s with
    | nil => cases hn
    | cons c d => exact .inr ⟨rfl, c, d, rfl, he⟩

theorem three_cells {w : World} {b : Nat} {x y z : Value} {E : TypeId} (h : w.heap[b]? = some (.cells #[x, y, z] E (0, 0))) :
    w.cell? ⟨b, 0, none⟩ = some x ∧ w.cell? ⟨b, 1, none⟩ = some y ∧ w.cell? ⟨b, 2, none⟩ = some z := ⟨by simp [World.cell?, h], by simp [World.cell?, h], by simp [World.cell?, h]⟩

theorem makeBinder_len (a0 : ByteArray) (A : Option Addr) (n c : Nat) (hl : n ≠ 2) (w : World) : Calls Tryz.prog 97 #[.string a0, .slice A n c] w (MPost none w) := by
  have h2 : ((n : Int) != 2) = true := by rw [bne_iff_ne]; omega
  go_enter Tryz.func97, Tryz.ntmps97
  go_wp2_with fail
  go_ret2
  exact ⟨(by repeat (with_reducible first | exact hbel | exact Below.refl _ _ | refine Below.drew ?_ | refine Below.drewN ?_ _ | refine Below.alloc ?_ (by first | (simp; done) | (simp; omega) | omega | (have := Below.size hbel; simp; omega) | (have := Below.size hbel; omega)) _ | refine Below.setCell ?_ (by first | (simp; done) | (simp; omega) | omega) _)), rfl⟩

set_option maxRecDepth 100000 in
theorem makeBinder_two (k : Nat) (H : Hid (MP k)) (a0 : ByteArray) (a b : T) (g c : Nat) (w : World) (D : Nat → Prop) (hp : Parts w D g 2 [a, b]) (hD : ∀ g, D g → g < w.heap.size) (hgw : g < w.heap.size) (hk : b.sz ≤ k) :
    Calls Tryz.prog 97 #[.string a0, .slice (some ⟨g, 2, none⟩) 2 c] w (MPost (binderO a0.toList [a, b]) w) := by
  obtain ⟨a1, p1, n1, c1, y0, y1, t1⟩ := hp 0 a rfl
  obtain ⟨a2, p2, n2, c2, z0, z1, t2⟩ := hp 1 b rfl
  simp only [Nat.zero_mul, Nat.one_mul, Nat.reduceAdd, Nat.add_zero] at y0 y1 z0 z1
  have hD' := Lib.hid hD
  have t2' := Lib.hid t2
  have t1' := Lib.hid t1.textB
  clear hp hD t2 t1
  go_enter Tryz.func97, Tryz.ntmps97
  go_wp2_with fail
  refine Calls.mono (readName_any _ _) ?_
  intro e w1 hnp
  obtain ⟨hb1, hcase⟩ := hnp.out t1'.out
  have z0' := (hb1.cell (p := ⟨g, 4, none⟩) hgw).trans z0
  have z1' := (hb1.cell (p := ⟨g, 5, none⟩) hgw).trans z1
  have hg1 : g < w1.heap.size := Nat.lt_of_lt_of_le hgw hb1.size
  have hb1' := Lib.hid hb1
  clear hnp hb1 z0 z1 y0 y1
  cases hP : toP b with
  | none =>
    have hno := Lib.hid (fun (w' : World) hb => (show MPost (binderO a0.toList [a, b]) w (.returned (.tuple #[.nilIface, .bool false])) w' from by rw [binder_body hP]; exact ⟨hb, rfl⟩))
    have hP' := Lib.hid hP
    clear hP
    rcases hcase with ⟨hn, rfl⟩ | ⟨hn, x, d, hxd, rfl⟩
    all_goals
      clear hn
      go_wp2_with fail
      refine Calls.mono (MP.not H.out hP'.out _ hk (t2'.out.below (by have hbel := hb1'.out; exact (by repeat (with_reducible first | exact hbel | exact Below.refl _ _ | refine Below.drew ?_ | refine Below.drewN ?_ _ | refine Below.alloc ?_ (by first | (simp; done) | (simp; omega) | omega | (have := Below.size hbel; simp; omega) | (have := Below.size hbel; omega)) _ | refine Below.setCell ?_ (by first | (simp; done) | (simp; omega) | omega) _))) hD'.out) (fun g hg => by have := hD'.out g hg; have := hb1'.out.size; simp; omega)) ?_
      rintro e w2 ⟨rfl, hb2⟩
      go_wp2_with fail
      go_ret2
      exact hno.out _ (below_step (bb_alloc hb1'.out _) (by have := hb1'.out.size; simp) hb2)
  | some q =>
    have hP' := Lib.hid hP
    rcases hcase with ⟨hn, rfl⟩ | ⟨hn, x, d, hxd, rfl⟩
    · have hno := Lib.hid (fun (w' : World) hb => (show MPost (binderO a0.toList [a, b]) w (.returned (.tuple #[.nilIface, .bool false])) w' from by rw [binder_name hn]; exact ⟨hb, rfl⟩))
      clear hn hP
      go_wp2_with fail
      refine Calls.mono (MP.yes H.out hP'.out _ hk (t2'.out.below (by have hbel := hb1'.out; exact (by repeat (with_reducible first | exact hbel | exact Below.refl _ _ | refine Below.drew ?_ | refine Below.drewN ?_ _ | refine Below.alloc ?_ (by first | (simp; done) | (simp; omega) | omega | (have := Below.size hbel; simp; omega) | (have := Below.size hbel; omega)) _ | refine Below.setCell ?_ (by first | (simp; done) | (simp; omega) | omega) _))) hD'.out) (fun g hg => by have := hD'.out g hg; have := hb1'.out.size; simp; omega)) ?_
      rintro e w2 ⟨y, rfl, hb2, hy⟩
      go_wp2_with fail
      go_ret2
      exact hno.out _ (below_step (bb_alloc hb1'.out _) (by have := hb1'.out.size; simp) hb2)
    · have hn' := Lib.hid hn
      have hxd' := Lib.hid hxd
      cases hK : q.kind
      · have hno := Lib.hid (fun (w' : World) hb => (show MPost (binderO a0.toList [a, b]) w (.returned (.tuple #[.nilIface, .bool false])) w' from by rw [binder_kind hP (by rw [hK]; decide)]; exact ⟨hb, rfl⟩))
        clear hn hxd hP
        go_wp2_with fail
        refine Calls.mono (MP.yes H.out hP'.out _ hk (t2'.out.below (by have hbel := hb1'.out; exact (by repeat (with_reducible first | exact hbel | exact Below.refl _ _ | refine Below.drew ?_ | refine Below.drewN ?_ _ | refine Below.alloc ?_ (by first | (simp; done) | (simp; omega) | omega | (have := Below.size hbel; simp; omega) | (have := Below.size hbel; omega)) _ | refine Below.setCell ?_ (by first | (simp; done) | (simp; omega) | omega) _))) hD'.out) (fun g hg => by have := hD'.out g hg; have := hb1'.out.size; simp; omega)) ?_
        rintro e w2 ⟨y, rfl, hb2, hy⟩
        have mq := fun w => kind_m hy w
        have cq := fun x w => kind_c q x w
        have hy' := Lib.hid hy
        have hb2' := Lib.hid (below_step (bb_alloc hb1'.out _) (by have := hb1'.out.size; simp) hb2)
        clear hy hb2
        go_wp2_with (refine Calls.mono (kind_any (toP_ok hP'.out) _ _ _ hy'.out) ?_; rw [hK, show K.t.name = [116, 101, 114, 109] from rfl]; rintro e w3 ⟨rfl, hb3⟩)
        go_ret2
        exact hno.out _ (below_step hb2'.out (Nat.le_refl _) hb3)
      · have hno := Lib.hid (fun (w' : World) hb => (show MPost (binderO a0.toList [a, b]) w (.returned (.tuple #[.nilIface, .bool false])) w' from by rw [binder_kind hP (by rw [hK]; decide)]; exact ⟨hb, rfl⟩))
        clear hn hxd hP
        go_wp2_with fail
        refine Calls.mono (MP.yes H.out hP'.out _ hk (t2'.out.below (by have hbel := hb1'.out; exact (by repeat (with_reducible first | exact hbel | exact Below.refl _ _ | refine Below.drew ?_ | refine Below.drewN ?_ _ | refine Below.alloc ?_ (by first | (simp; done) | (simp; omega) | omega | (have := Below.size hbel; simp; omega) | (have := Below.size hbel; omega)) _ | refine Below.setCell ?_ (by first | (simp; done) | (simp; omega) | omega) _))) hD'.out) (fun g hg => by have := hD'.out g hg; have := hb1'.out.size; simp; omega)) ?_
        rintro e w2 ⟨y, rfl, hb2, hy⟩
        have mq := fun w => kind_m hy w
        have cq := fun x w => kind_c q x w
        have hy' := Lib.hid hy
        have hb2' := Lib.hid (below_step (bb_alloc hb1'.out _) (by have := hb1'.out.size; simp) hb2)
        clear hy hb2
        go_wp2_with (refine Calls.mono (kind_any (toP_ok hP'.out) _ _ _ hy'.out) ?_; rw [hK, show K.c.name = [99, 111, 116, 101, 114, 109] from rfl]; rintro e w3 ⟨rfl, hb3⟩)
        go_ret2
        exact hno.out _ (below_step hb2'.out (Nat.le_refl _) hb3)
      · cases hh : (bhead (x :: d) == a0.toList)
        · have hh1 : ((⟨(bhead (x :: d)).toArray⟩ : ByteArray).toList == a0.toList) = false := by rw [str_list, hh]
          have hno := Lib.hid (fun (w' : World) hb => (show MPost (binderO a0.toList [a, b]) w (.returned (.tuple #[.nilIface, .bool false])) w' from by rw [binder_head (by rw [hxd]; exact beq_eq_false_iff_ne.1 hh)]; exact ⟨hb, rfl⟩))
          clear hn hxd hP
          go_wp2_with fail
          refine Calls.mono (MP.yes H.out hP'.out _ hk (t2'.out.below (by have hbel := hb1'.out; exact (by repeat (with_reducible first | exact hbel | exact Below.refl _ _ | refine Below.drew ?_ | refine Below.drewN ?_ _ | refine Below.alloc ?_ (by first | (simp; done) | (simp; omega) | omega | (have := Below.size hbel; simp; omega) | (have := Below.size hbel; omega)) _ | refine Below.setCell ?_ (by first | (simp; done) | (simp; omega) | omega) _))) hD'.out) (fun g hg => by have := hD'.out g hg; have := hb1'.out.size; simp; omega)) ?_
          rintro e w2 ⟨y, rfl, hb2, hy⟩
          have mq := fun w => kind_m hy w
          have cq := fun x w => kind_c q x w
          have hbx := (hb2.block w1.heap.size (by simp)).trans (heap_alloc_new w1 _)
          have hz2 : w1.heap.size < w2.heap.size := Nat.lt_of_lt_of_le (by simp) hb2.size
          have hy' := Lib.hid hy
          have hb2' := Lib.hid (below_step (bb_alloc hb1'.out _) (by have := hb1'.out.size; simp) hb2)
          have hbx' := Lib.hid hbx
          clear hy hb2 hbx
          go_wp2_with fail
          refine Calls.mono (kind_any (toP_ok hP'.out) _ _ _ hy'.out) ?_
          rw [hK, show K.s.name = [115, 116, 97, 116, 101, 109, 101, 110, 116] from rfl]
          rintro e w3 ⟨rfl, hb3⟩
          obtain ⟨z0, r0, r1, -, -⟩ := two_cells ((hb3.block w1.heap.size hz2).trans hbx'.out)
          have hy3 := Lib.hid (hy'.out.below hb3 (fun g hg => hg.2))
          have hb3' := Lib.hid (below_step hb2'.out (Nat.le_refl _) hb3)
          have hs3 := hb3.size
          clear hb3
          go_wp2_with fail
          refine Calls.mono (headB_any _ _ _ _) ?_
          rintro e w4 ⟨rfl, hb4⟩
          obtain ⟨q0, q1, q2⟩ := three_cells ((hb4.block w3.heap.size (by simp)).trans (heap_alloc_new w3 _))
          go_wp2_with fail
          go_ret2
          exact hno.out _ (below_step (bb_alloc hb3'.out _) (by have := hb3'.out.size; simp) hb4)
        · have hh1 : ((⟨(bhead (x :: d)).toArray⟩ : ByteArray).toList == a0.toList) = true := by rw [str_list, hh]
          have hyes := Lib.hid (fun (w' : World) (y : Value) hb (hy : PI w' (New w.heap.size w') q y) => (show MPost (binderO a0.toList [a, b]) w (.returned (.tuple #[.iface 46 (.agg #[.int .u8 x.toNat, str d, .iface (pt q) y]), .bool true])) w' from by
            rw [binder_yes hP hn hK (by rw [hxd]; exact eq_of_beq hh)]; exact ⟨hb, _, rfl, x, d, y, hxd, rfl, hy⟩))
          clear hn hxd hP
          go_wp2_with fail
          refine Calls.mono (MP.yes H.out hP'.out _ hk (t2'.out.below (by have hbel := hb1'.out; exact (by repeat (with_reducible first | exact hbel | exact Below.refl _ _ | refine Below.drew ?_ | refine Below.drewN ?_ _ | refine Below.alloc ?_ (by first | (simp; done) | (simp; omega) | omega | (have := Below.size hbel; simp; omega) | (have := Below.size hbel; omega)) _ | refine Below.setCell ?_ (by first | (simp; done) | (simp; omega) | omega) _))) hD'.out) (fun g hg => by have := hD'.out g hg; have := hb1'.out.size; simp; omega)) ?_
          rintro e w2 ⟨y, rfl, hb2, hy⟩
          have mq := fun w => kind_m hy w
          have cq := fun x w => kind_c q x w
          have hbx := (hb2.block w1.heap.size (by simp)).trans (heap_alloc_new w1 _)
          have hz2 : w1.heap.size < w2.heap.size := Nat.lt_of_lt_of_le (by simp) hb2.size
          have hy' := Lib.hid hy
          have hb2' := Lib.hid (below_step (bb_alloc hb1'.out _) (by have := hb1'.out.size; simp) hb2)
          have hbx' := Lib.hid hbx
          clear hy hb2 hbx
          go_wp2_with fail
          refine Calls.mono (kind_any (toP_ok hP'.out) _ _ _ hy'.out) ?_
          rw [hK, show K.s.name = [115, 116, 97, 116, 101, 109, 101, 110, 116] from rfl]
          rintro e w3 ⟨rfl, hb3⟩
          obtain ⟨z0, r0, r1, -, -⟩ := two_cells ((hb3.block w1.heap.size hz2).trans hbx'.out)
          have hy3 := Lib.hid (hy'.out.below hb3 (fun g hg => hg.2))
          have hb3' := Lib.hid (below_step hb2'.out (Nat.le_refl _) hb3)
          have hs3 := hb3.size
          clear hb3
          go_wp2_with fail
          refine Calls.mono (headB_any _ _ _ _) ?_
          rintro e w4 ⟨rfl, hb4⟩
          obtain ⟨q0, q1, q2⟩ := three_cells ((hb4.block w3.heap.size (by simp)).trans (heap_alloc_new w3 _))
          go_wp2_with fail
          go_ret2
          refine hyes.out _ _ (below_step (bb_alloc hb3'.out _) (by have := hb3'.out.size; simp) hb4) ?_
          have s1 := hb1'.out.size
          have s4 := hb4.size
          simp at s4
          refine PI.keep (fun g hg => ?_) (fun g hg => ?_) _ _ hy3.out
          · rw [hb4.block g (by have := hg.2; simp; omega), Below.heap_alloc _ _ _ (by have := hg.2; omega)]
          · exact ⟨by have := hg.1; simp at this; omega, by have := hg.2; omega⟩

end Go.Proofs.YtaagbnbekfogiaaGreatDoor

namespace Go.Proofs.YtaagbnbekfogiaaGreatDoor
set_option linter.unusedVariables false
open Go.RowKit

/-- What makeForm answers, behind a head that binds nothing. -/
def formO (h : Bs) (ts : List T) : Option P := toP (.node (.atom h :: ts))

theorem makeForm_none (a0 : ByteArray) (A : Option Addr) (n c : Nat) (hs : shapeL a0.toList = none) (w : World) : Calls Tryz.prog 98 #[.string a0, .slice A n c] w (MPost none w) := by
  have call := fun W => shapeOf_any a0 W
  unfold ShPost at call
  rw [hs] at call
  have call' := Lib.hid call
  have hf := field_parts
  clear call
  go_enter Tryz.func98, Tryz.ntmps98
  go_wp2_with (go_at_call 59; refine Calls.mono (call'.out _) ?_; rintro e w1 ⟨hb1, rfl⟩)
  go_ret2
  exact ⟨hb1, rfl⟩

theorem makeForm_len (a0 : ByteArray) (A : Option Addr) (n c : Nat) {k : K} {d : Bs} {ks : List K} (hs : shapeL a0.toList = some (k, d, ks)) (hl : n ≠ ks.length) (w : World) : Calls Tryz.prog 98 #[.string a0, .slice A n c] w (MPost none w) := by
  have call := fun W => shapeOf_any a0 W
  unfold ShPost at call
  rw [hs] at call
  have call' := Lib.hid call
  have hf := field_parts
  have h1 : ks.length ≠ 0 := by rcases shape_some hs with ⟨l, rfl, -⟩ | ⟨l, m, rfl, -⟩ <;> simp
  have h0 : ((ks.length : Int) == 0) = false := by rw [beq_eq_false_iff_ne]; omega
  have h2 : ((n : Int) != (ks.length : Int)) = true := by rw [bne_iff_ne]; omega
  clear call hl h1
  go_enter Tryz.func98, Tryz.ntmps98
  go_wp2_with (go_at_call 59; refine Calls.mono (call'.out _) ?_; rintro e w1 ⟨hb1, g1, n1, rfl, -, -⟩)
  go_ret2
  exact ⟨hb1, rfl⟩

set_option maxRecDepth 100000 in
set_option maxHeartbeats 2000000 in
theorem makeForm_any (k : Nat) (H : Hid (MP k)) (a0 : ByteArray) (ts : List T) (g c : Nat) (w : World) (D : Nat → Prop) (hp : Parts w D g 2 ts) (hD : ∀ g, D g → g < w.heap.size) (hgw : g < w.heap.size) (hk : ∀ t ∈ ts, t.sz ≤ k)
    (x : T) (hx : atomOf x = a0.toList) (hm : isMu (atomOf x) = false) {k1 : K} {d : Bs} {ks : List K} (hs : shapeL a0.toList = some (k1, d, ks)) (hl : ts.length = ks.length) :
    Calls Tryz.prog 98 #[.string a0, .slice (some ⟨g, 2, none⟩) ks.length c] w (MPost (toP (.node (x :: ts))) w) := by
  have call := fun W => shapeOf_any a0 W
  unfold ShPost at call
  rw [hs] at call
  have call' := Lib.hid call
  have hf := field_parts
  have h1 : ks.length ≠ 0 ∧ ks.length ≤ 2 := by rcases shape_some hs with ⟨l, rfl, -⟩ | ⟨l, m, rfl, -⟩ <;> simp
  obtain ⟨h1, h3⟩ := h1
  have h0 : ((ks.length : Int) == 0) = false := by rw [beq_eq_false_iff_ne]; omega
  have h2 : ((ks.length : Int) != (ks.length : Int)) = false := by simp
  rw [← hx] at hs
  have hD' := Lib.hid hD
  have hp' := Lib.hid hp
  have hk' := Lib.hid hk
  have bad := Lib.hid (fun i t l ht hk hb => toP_part (x := x) hm hs hl (i := i) (t := t) (l := l) ht hk hb)
  have good := Lib.hid (fun qs hq hk => toP_form (x := x) hm hs hl (qs := qs) hq hk)
  have hl' := Lib.hid hl
  clear call hD hp hk hs hl
  obtain ⟨i0, hi0, hz0, hz1, hz2⟩ := info_parts infoProgram
  go_enter Tryz.func98, Tryz.ntmps98
  go_wp2_with fail
  refine Calls.mono (call'.out _) ?_
  rintro e w1 ⟨hb1, g1, n1, rfl, hg1, hkc⟩
  have hb1' := Lib.hid hb1
  have hkc' := Lib.hid hkc
  have hg1l := hg1.2
  clear hb1 hkc hg1
  go_wp2_with fail
  go_loopw [7, 27] (fun v i wr => ∃ (j : Nat) (qs : List P) (A1 : Option Addr) (c1 : Nat) (xs : List Value), j ≤ ks.length ∧ i = .int .i64 j ∧ v = .slice A1 j c1 ∧ qs.length = j ∧ (ts.take j).map toP = qs.map some ∧ qs.map P.kind = ks.take j ∧
      wr.ownsRow w1.heap.size 36 1 (.slice A1 j c1) j xs ∧ PRow wr (fun g => New w.heap.size wr g ∧ (Value.slice A1 j c1).ownBlock ≠ some g) qs xs ∧ Below w1.heap.size w1 wr)
    (fun _ i _ => ks.length - (intOf i).toNat)
  case atStart => exact ⟨0, [], none, 0, [], Nat.zero_le _, rfl, rfl, rfl, rfl, rfl, World.ownsRow_nil _ _ _ _, rfl, Below.refl _ _⟩
  case round =>
    obtain ⟨j, qs, A1, c1, xs, hj, rfl, rfl, hql, hqs, hkq, own1, kids1, hb2⟩ := hrel
    have hbelw := below_step hb1'.out (Nat.le_refl _) hb2
    by_cases hlt : j < ks.length
    · obtain ⟨t, ht⟩ : ∃ t, ts[j]? = some t := ⟨ts[j]'(by rw [hl'.out]; exact hlt), List.getElem?_eq_getElem _⟩
      obtain ⟨l, hlk⟩ : ∃ l, ks[j]? = some l := ⟨ks[j], List.getElem?_eq_getElem _⟩
      obtain ⟨a1, p1, n2, c2, x0, x1, t1⟩ := hp'.out j t ht
      have y0 := (hbelw.cell (p := ⟨g, 2 + j * 2, none⟩) hgw).trans x0
      have y1 := (hbelw.cell (p := ⟨g, 2 + j * 2 + 1, none⟩) hgw).trans x1
      have y2 := (hb2.cell (p := ⟨g1, j, none⟩) hg1l).trans (hkc'.out j l hlk)
      have hgr : g < wr.heap.size := Nat.lt_of_lt_of_le hgw hbelw.size
      have hg1r : g1 < wr.heap.size := Nat.lt_of_lt_of_le hg1l hb2.size
      have htk := hk'.out t (List.mem_of_getElem? ht)
      have htB := Lib.hid (fun W (hW : Below w.heap.size w W) => t1.below hW hD'.out)
      have hbelw' := Lib.hid hbelw
      have hb2' := Lib.hid hb2
      have own1' := Lib.hid own1
      have kids1' := Lib.hid kids1
      have hs1 := hb1'.out.size
      have hs2 := hb2.size
      have y2' := Lib.hid y2
      clear x0 x1 t1 hbelw hb2 own1 kids1 y2
      cases hP : toP t with
      | none =>
        have hno := Lib.hid (fun (w' : World) hb => (show MPost (toP (.node (x :: ts))) w (.returned (.tuple #[.nilIface, .bool false])) w' from by
          rw [bad.out j t l ht hlk (fun p hp => by rw [hP] at hp; cases hp)]; exact ⟨hb, rfl⟩))
        have hP' := Lib.hid hP
        clear hP
        go_wp2_with fail
        refine Calls.mono (MP.not H.out hP'.out _ htk (htB.out _ (bb_alloc hbelw'.out _)) (fun g hg => by have := hD'.out g hg; simp; omega)) ?_
        rintro e w2 ⟨rfl, hb3⟩
        go_wp2_with fail
        go_quiet (fail)
        go_wp2_with fail
        go_ret2
        exact hno.out _ (Below.drewN (below_step (bb_alloc hbelw'.out _) (by have := hbelw'.out.size; simp) hb3) _)
      | some q =>
        have hP' := Lib.hid hP
        have hok := Lib.hid (toP_ok hP)
        cases hK : decide (q.kind = l)
        · have hno := Lib.hid (fun (w' : World) hb => (show MPost (toP (.node (x :: ts))) w (.returned (.tuple #[.nilIface, .bool false])) w' from by
            rw [bad.out j t l ht hlk (fun p hp => by rw [hP] at hp; injection hp with hp; subst hp; exact of_decide_eq_false hK)]; exact ⟨hb, rfl⟩))
          have hne : (q.kind.name == l.name) = false := by
            have h := of_decide_eq_false hK
            revert h; cases q.kind <;> cases l <;> decide
          clear hP
          go_wp2_with fail
          refine Calls.mono (MP.yes H.out hP'.out _ htk (htB.out _ (bb_alloc hbelw'.out _)) (fun g hg => by have := hD'.out g hg; simp; omega)) ?_
          rintro e w2 ⟨y, rfl, hb3, hy⟩
          have mq := fun w => kind_m hy w
          have cq := fun x w => kind_c q x w
          have y3 := (hb3.cell (p := ⟨g1, j, none⟩) (by simp; omega)).trans ((World.cell?_alloc_lt _ _ _ (by exact hg1r)).trans y2'.out)
          have hsz2 := hb3.size
          simp at hsz2
          have hy' := Lib.hid hy
          have hb3' := Lib.hid (below_step (bb_alloc hbelw'.out _) (by have := hbelw'.out.size; simp) hb3)
          clear hy hb3
          have hS : Hid (∀ W', Below w2.heap.size w2 W' → W'.cell? ⟨g1, j, none⟩ = some (str l.name)) := fun W' h => (h.cell (p := ⟨g1, j, none⟩) (by show g1 < _; omega)).trans y3
          have hcall : Hid (∀ W, Below w2.heap.size w2 W → Calls Tryz.prog (kindFn q) #[y] W fun e w' => e = .returned (str q.kind.name) ∧ Below W.heap.size W w') :=
            fun W hW => kind_any hok.out W _ _ (hy'.out.below hW (fun g hg => hg.2))
          clear y3
          go_wp2_with fail
          go_region_held3 (fun w' => w'.cell? ⟨g1, j, none⟩ = some (str l.name))
            (first | exact hS.out _ (Below.refl _ _).drew | exact hS.out _ (below_step (Below.refl _ _).drew (by simp) hb4))
            (first | (refine Calls.mono (hcall.out _ (Below.refl _ _).drew) ?_; rintro e w4 ⟨rfl, hb4⟩))
          all_goals
            go_wp2_with fail
            go_ret2
            exact hno.out _ (below_step hb3'.out (Nat.le_refl _) (below_step (Below.refl _ _).drew (by simp) hb4))
        · obtain rfl : q.kind = l := of_decide_eq_true hK
          have hne : (q.kind.name == q.kind.name) = true := by simp
          clear hP
          go_wp2_with fail
          refine Calls.mono (MP.yes H.out hP'.out _ htk (htB.out _ (bb_alloc hbelw'.out _)) (fun g hg => by have := hD'.out g hg; simp; omega)) ?_
          rintro e w2 ⟨y, rfl, hb3, hy⟩
          have mq := fun w => kind_m hy w
          have cq := fun x w => kind_c q x w
          have y3 := (hb3.cell (p := ⟨g1, j, none⟩) (by simp; omega)).trans ((World.cell?_alloc_lt _ _ _ (by exact hg1r)).trans y2'.out)
          have hsz2 := hb3.size
          simp at hsz2
          have hy' := Lib.hid hy
          have hwr3 := Lib.hid (below_step (show Below wr.heap.size wr (wr.alloc _) from (Below.refl _ _).alloc (Nat.le_refl _) _) (by simp) hb3)
          have hb3' := Lib.hid (below_step (bb_alloc hbelw'.out _) (by have := hbelw'.out.size; simp) hb3)
          clear hy hb3
          have hS : Hid (∀ W', Below w2.heap.size w2 W' → W'.cell? ⟨g1, j, none⟩ = some (str q.kind.name)) := fun W' h => (h.cell (p := ⟨g1, j, none⟩) (by show g1 < _; omega)).trans y3
          have hcall : Hid (∀ W, Below w2.heap.size w2 W → Calls Tryz.prog (kindFn q) #[y] W fun e w' => e = .returned (str q.kind.name) ∧ Below W.heap.size W w') :=
            fun W hW => kind_any hok.out W _ _ (hy'.out.below hW (fun g hg => hg.2))
          clear y3
          go_wp2_with fail
          go_region_held3 (fun w' => w'.cell? ⟨g1, j, none⟩ = some (str q.kind.name))
            (first | exact hS.out _ (Below.refl _ _).drew | exact hS.out _ (below_step (Below.refl _ _).drew (by simp) hb4))
            (first | (refine Calls.mono (hcall.out _ (Below.refl _ _).drew) ?_; rintro e w4 ⟨rfl, hb4⟩))
          all_goals
            have hb4' : Hid (Below w2.heap.size w2 w4) := Lib.hid (below_step (Below.refl _ _).drew (by simp) hb4)
            have hW4 := Lib.hid (below_step hb3'.out (Nat.le_refl _) hb4'.out)
            have hy4 := Lib.hid ((hy'.out.below hb4'.out (fun g hg => hg.2)).to (D' := New wr.heap.size w4) (fun g hg => ⟨by have := hg.1; simp at this; omega, Nat.lt_of_lt_of_le hg.2 hb4'.out.size⟩))
            have hwr4 := Lib.hid (below_step hwr3.out (Nat.le_refl _) hb4'.out)
            have own4 := Lib.hid (own_below own1'.out hwr4.out)
            clear hb4
            go_wp2_with (at_builtin; go_loud (refine wpList_append_lies _ rfl (.tmp 48) (.tmp 50) 75 rfl w1.heap.size 36 i0 _ 1 16 Tryz.underlying75 hi0 hz0 hz1 hz2 rfl (by decide) _ _ _ rfl (own4.out.alloc _) ⟨w4.heap.size, 0, none⟩ 1 1 [.iface (pt q) y] rfl rfl ?c1 ?c2 (by decide) ?c3 ?c4 ?c5 _ rfl ?_))
            case c1 => exact World.news_of_block (cs := #[.iface (pt q) y]) (heap_alloc_new _ _)
            case c2 => intro u hu; simp at hu; rw [hu]; rfl
            case c3 => unfold maxLen; omega
            case c4 => omega
            case c5 => have := hb2'.out.size; have := hwr4.out.size; simp; omega
            intro g2 cap w5 own5 gr5 hat hlt5
            have hrow := Lib.hid (prow_step (m := j + 1) (cap := cap) (by have := hbelw'.out.size; omega) own1'.out kids1'.out hwr4.out hy4.out ((Below.refl _ _).alloc (Nat.le_refl _) (.cells #[.iface (pt q) y] 36)) gr5 (g := g2) (by rcases hat with h | h; exact .inl h; exact .inr (by rw [h]; simp)))
            have hb5 : Hid (Below w1.heap.size w1 w5) := Lib.hid ((bb_alloc (below_step hb2'.out (Nat.le_refl _) hwr4.out) _).grown gr5 (by have := hb2'.out.size; have := hwr4.out.size; simp; omega) (fun k hk => (own4.out.lt k hk).1))
            have own5' := Lib.hid own5
            clear own5 gr5 hat
            go_wp2_with fail
            go_roundw
            case rel =>
              refine ⟨j + 1, qs ++ [q], some ⟨g2, 0, none⟩, cap, xs ++ [.iface (pt q) y], by omega, by go_num, rfl, by simp [hql], ?_, ?_, own5'.out, hrow.out, hb5.out⟩
              · rw [List.take_add_one, ht, List.map_append, hqs, List.map_append]; simp [hP'.out]
              · rw [List.take_add_one, hlk, List.map_append, hkq]; simp
            case measure => simp [intOf]; omega
    · have e : j = ks.length := by omega
      subst e
      have hfin : Hid (MPost (toP (.node (x :: ts))) w (.returned (.tuple #[.iface 77 (.agg #[.string a0, .slice A1 ks.length c1]), .bool true])) wr) := by
        rw [List.take_of_length_le (by rw [hl'.out]; omega)] at hqs
        rw [List.take_of_length_le (Nat.le_refl _)] at hkq
        obtain ⟨p, hp, hform⟩ := good.out qs hqs hkq
        rw [hp]
        obtain ⟨g2, cap, hv, hown, hlt2⟩ := own1.form (by omega)
        have hA : A1 = some ⟨g2, 0, none⟩ := by injection hv
        have hcap : c1 = cap := by injection hv
        subst hA
        obtain ⟨hpi, hpt⟩ := PI.ofForm (w := wr) (D := New w.heap.size wr) (n := c1) hform (g := g2) ⟨by have := own1.lt g2 rfl; have := hb1'.out.size; omega, hlt2⟩ (fun i q hi => by
          obtain ⟨y, h1, h2⟩ := kids1.at_ hi
          have h3 := own1.cells (g := g2) rfl i _ h1
          have e : ({ block := g2, off := 0, spot := none } : Addr).add i = ⟨g2, i, none⟩ := by unfold Addr.add; split <;> simp_all
          rw [e] at h3
          exact ⟨y, h3, h2.to (fun g hg => hg.1)⟩)
        refine ⟨hbelw, .agg #[str (atomOf x), .slice (some ⟨g2, 0, none⟩) qs.length c1], ?_, hpi⟩
        rw [hpt, hql, hx, str, show (⟨a0.toList.toArray⟩ : ByteArray) = a0 from by rw [Lib.toList_data]]
      clear own1 kids1 hb2 hbelw hqs hkq hql
      go_wp2_with fail
      go_ret2
      exact hfin.out

end Go.Proofs.YtaagbnbekfogiaaGreatDoor

namespace Go.Proofs.YtaagbnbekfogiaaGreatDoor
set_option linter.unusedVariables false
open Go.RowKit

theorem toP_binder {x : T} {ts : List T} (hm : isMu (atomOf x) = true) : toP (.node (x :: ts)) = binderO (atomOf x) ts := by
  match ts with
  | [] => exact toP_one x
  | [a] => rw [toP_two, if_pos hm]; rfl
  | [a, b] => rw [toP_three, if_pos hm]; rfl
  | _ :: _ :: _ :: _ => exact toP_many ..

theorem MPost.up {o : Option P} {w W w' : World} {e : Ending} (h : MPost o W e w') (hW : Below w.heap.size w W) : MPost o w e w' := by
  obtain ⟨hb, h⟩ := h
  refine ⟨below_step hW (Nat.le_refl _) hb, ?_⟩
  cases o with
  | none => exact h
  | some p =>
    obtain ⟨y, he, hp⟩ := h
    exact ⟨y, he, hp.to (fun g hg => ⟨Nat.le_trans hW.size hg.1, hg.2⟩)⟩

set_option maxRecDepth 100000 in
theorem mp_atom (s : Bs) (w : World) : Calls Tryz.prog 80 #[.agg #[.string ⟨s.toArray⟩, .slice none 0 0]] w (MPost (toP (.atom s)) w) := by
  have hno := Lib.hid (fun (h : isName s = false) (w' : World) hb => (show MPost (toP (.atom s)) w (.returned (.tuple #[.nilIface, .bool false])) w' from by rw [toP_atom, h]; exact ⟨hb, rfl⟩))
  have hyes := Lib.hid (fun (h : isName s = true) (c : UInt8) (d : Bs) (hs : s = c :: d) (w' : World) (hb : Below w.heap.size w w') => (show MPost (toP (.atom s)) w (.returned (.tuple #[.iface (pt (.nm (c :: d))) (nameV c d), .bool true])) w' from by
    rw [toP_atom, h]; subst hs; exact ⟨hb, _, rfl, c, d, rfl, rfl⟩))
  go_enter Tryz.func80, Tryz.ntmps80
  go_wp2_with fail
  refine Calls.mono (readName_any _ _) ?_
  intro e w1 hnp
  obtain ⟨hb1, hcase⟩ := hnp.out rfl
  have hb1' := Lib.hid (below_step ((Below.refl _ _).alloc (Nat.le_refl _) _ : Below w.heap.size w (w.alloc _)) (by simp) hb1)
  clear hnp hb1
  rcases hcase with ⟨hn, rfl⟩ | ⟨hn, c, d, hcd, rfl⟩
  · have hno' := Lib.hid (hno.out hn)
    go_wp2_with fail
    go_ret2
    refine hno'.out _ ?_
    have hbel := hb1'.out
    exact (by repeat (with_reducible first | exact hbel | exact Below.refl _ _ | refine Below.drew ?_ | refine Below.drewN ?_ _ | refine Below.alloc ?_ (by first | (simp; done) | (simp; omega) | omega | (have := Below.size hbel; simp; omega) | (have := Below.size hbel; omega)) _ | refine Below.setCell ?_ (by first | (simp; done) | (simp; omega) | omega) _))
  · have hyes' := Lib.hid (hyes.out hn c d hcd)
    clear hn
    go_wp2_with (go_at_call 96; refine Calls.mono (leaf_any c d _) ?_; rintro e w2 ⟨rfl, hb2⟩)
    go_ret2
    refine hyes'.out _ ?_
    exact below_step (bb_alloc hb1'.out _) (by have := hb1'.out.size; simp) hb2

theorem mp_nil (g c : Nat) (w : World) : Calls Tryz.prog 80 #[.agg #[.string ⟨#[]⟩, .slice (some ⟨g, 0, none⟩) 0 c]] w (MPost none w) := by
  go_enter Tryz.func80, Tryz.ntmps80
  go_wp2_with fail
  refine Calls.mono (readName_any _ _) ?_
  intro e w1 hnp
  obtain ⟨hb1, hcase⟩ := hnp.out (s := []) rfl
  have hb1' := Lib.hid (below_step ((Below.refl _ _).alloc (Nat.le_refl _) _ : Below w.heap.size w (w.alloc _)) (by simp) hb1)
  clear hnp hb1
  rcases hcase with ⟨hn, rfl⟩ | ⟨hn, c, d, hcd, rfl⟩
  · go_wp2_with fail
    go_ret2
    have hbel := hb1'.out
    exact ⟨(by repeat (with_reducible first | exact hbel | exact Below.refl _ _ | refine Below.drew ?_ | refine Below.drewN ?_ _ | refine Below.alloc ?_ (by first | (simp; done) | (simp; omega) | omega | (have := Below.size hbel; simp; omega) | (have := Below.size hbel; omega)) _ | refine Below.setCell ?_ (by first | (simp; done) | (simp; omega) | omega) _)), rfl⟩
  · cases hn

set_option maxRecDepth 100000 in
set_option maxHeartbeats 1000000 in
theorem mp_node (k : Nat) (H : Hid (MP k)) (x : T) (ts : List T) (w : World) (D : Nat → Prop) (p : Option Addr) (c : Nat) (hk : (T.node (x :: ts)).sz ≤ k + 1) (s : ByteArray) (n : Nat) (ht : TC w D (.node (x :: ts)) s p n c) (hD : ∀ g, D g → g < w.heap.size) :
    Calls Tryz.prog 80 #[.agg #[.string s, .slice p n c]] w (MPost (toP (.node (x :: ts))) w) := by
  obtain ⟨rfl, hn, g, rfl, hg, hp⟩ := ht.part
  obtain ⟨a0, p0, n0, c0, x0, x1, t0⟩ := hp 0 x rfl
  have hgw := hD g hg
  simp only [Nat.zero_mul, Nat.zero_add] at x0 x1
  have hta := t0.text
  have hcap := ht.cap
  have hn' : n = ts.length + 1 := by simpa using hn
  subst hn'
  have hn0 : (((ts.length + 1 : Nat) : Int) == 0) = false := by rw [beq_eq_false_iff_ne]; omega
  have hrest : Parts w D g 2 ts := fun i t hi => by
    obtain ⟨a, p, n, c, h0, h1, h2⟩ := hp (i + 1) t (by simpa using hi)
    exact ⟨a, p, n, c, by rw [show 2 + i * 2 = (i + 1) * 2 from by omega]; exact h0, by rw [show 2 + i * 2 + 1 = (i + 1) * 2 + 1 from by omega]; exact h1, h2⟩
  have hkk : ∀ t ∈ ts, t.sz ≤ k := fun t hm => by
    obtain ⟨i, hi⟩ := List.getElem?_of_mem hm
    have := T.sz_part (ps := x :: ts) (i := i + 1) (t := t) (by simpa using hi)
    omega
  have hD' := Lib.hid hD
  have hka : a0.toList = atomOf x := hta
  clear hp t0 ht hn hta hD
  have hpW : ∀ W, Below w.heap.size w W → Parts W D g 2 ts := fun W hW i t hi => by
    obtain ⟨a, p, n, c, e0, e1, e2⟩ := hrest i t hi
    exact ⟨a, p, n, c, (hW.cell (p := ⟨g, 2 + i * 2, none⟩) hgw).trans e0, (hW.cell (p := ⟨g, 2 + i * 2 + 1, none⟩) hgw).trans e1, e2.below hW hD'.out⟩
  have hDW : ∀ W, Below w.heap.size w W → ∀ g, D g → g < W.heap.size := fun W hW g hg => Nat.lt_of_lt_of_le (hD'.out g hg) hW.size
  have callB : isMu (atomOf x) = true → ∀ W A c', (A = some ⟨g, 2, none⟩ ∨ ts = []) → Below w.heap.size w W → Calls Tryz.prog 97 #[.string a0, .slice A ts.length c'] W (MPost (toP (.node (x :: ts))) W) := by
    intro hm W A c' hA hW
    rw [toP_binder hm]
    by_cases hl : ts.length = 2
    · have hA2 : A = some ⟨g, 2, none⟩ := by
        rcases hA with h | h
        · exact h
        · rw [h] at hl; simp at hl
      subst hA2
      match ts, hl, hpW W hW, hkk with
      | [a, b], _, hp, hkk =>
        rw [← hka]
        exact makeBinder_two k H a0 a b g c' W D hp (hDW W hW) (Nat.lt_of_lt_of_le hgw hW.size) (hkk b (by simp))
    · rw [binder_len _ hl]
      exact makeBinder_len a0 _ _ _ hl W
  have callF : isMu (atomOf x) = false → ∀ W A c', (A = some ⟨g, 2, none⟩ ∨ ts = []) → Below w.heap.size w W → Calls Tryz.prog 98 #[.string a0, .slice A ts.length c'] W (MPost (toP (.node (x :: ts))) W) := by
    intro hm W A c' hA hW
    cases hs : shapeL a0.toList with
    | none =>
      rw [toP_head hm (by rw [← hka]; exact hs)]
      exact makeForm_none a0 _ _ _ hs W
    | some r =>
      obtain ⟨k1, d, ks⟩ := r
      by_cases hl : ts.length = ks.length
      · have hA2 : A = some ⟨g, 2, none⟩ := by
          rcases hA with h | h
          · exact h
          · rw [h] at hl
            rcases shape_some hs with ⟨l, rfl, -⟩ | ⟨l, m, rfl, -⟩ <;> simp at hl
        subst hA2
        rw [hl]
        exact makeForm_any k H a0 ts g c' W D (hpW W hW) (hDW W hW) (Nat.lt_of_lt_of_le hgw hW.size) hkk x hka.symm hm hs hl
      · rw [toP_len hm (by rw [← hka]; exact hs) hl]
        exact makeForm_len a0 _ _ _ hs hl W
  have hmB := Lib.hid (fun (h : (a0.toList == [109, 117]) = true ∨ (a0.toList == [116, 109, 117]) = true) => callB (by rw [← hka]; rcases h with h | h <;> simp [isMu, muB, tmuB, eq_of_beq h]))
  have hmF := Lib.hid (fun (h : (a0.toList == [109, 117]) = false) (h' : (a0.toList == [116, 109, 117]) = false) => callF (by rw [← hka]; simp only [isMu, muB, tmuB, h, h']; rfl))
  clear callB callF hpW hDW hka hrest hkk
  generalize toP (.node (x :: ts)) = o at hmB hmF ⊢
  cases h1 : (a0.toList == [109, 117])
  · cases h2 : (a0.toList == [116, 109, 117])
    · have call := Lib.hid (hmF.out h1 h2)
      go_enter Tryz.func80, Tryz.ntmps80
      go_wp2_with fail
      go_quiet (fail)
      go_wp2_with fail
      all_goals
        refine Calls.mono (call.out _ _ _ (by first | exact .inl rfl | exact .inr (List.eq_nil_of_length_eq_zero (by omega))) (by exact (by repeat (with_reducible first | exact hbel | exact Below.refl _ _ | refine Below.drew ?_ | refine Below.drewN ?_ _ | refine Below.alloc ?_ (by first | (simp; done) | (simp; omega) | omega | (have := Below.size hbel; simp; omega) | (have := Below.size hbel; omega)) _ | refine Below.setCell ?_ (by first | (simp; done) | (simp; omega) | omega) _)))) ?_
        intro e w1 hm1
        have hm2 := hm1.up (w := w) (by exact (by repeat (with_reducible first | exact hbel | exact Below.refl _ _ | refine Below.drew ?_ | refine Below.drewN ?_ _ | refine Below.alloc ?_ (by first | (simp; done) | (simp; omega) | omega | (have := Below.size hbel; simp; omega) | (have := Below.size hbel; omega)) _ | refine Below.setCell ?_ (by first | (simp; done) | (simp; omega) | omega) _)))
        clear hm1
        cases o with
        | none =>
          obtain ⟨hb2, rfl⟩ := hm2
          go_wp2_with fail
          go_ret2
          exact ⟨hb2, rfl⟩
        | some p =>
          obtain ⟨hb2, y, rfl, hy⟩ := hm2
          have hy' := Lib.hid hy
          clear hy
          go_wp2_with fail
          go_ret2
          exact ⟨hb2, y, rfl, hy'.out⟩
    · have call := Lib.hid (hmB.out (.inr h2))
      go_enter Tryz.func80, Tryz.ntmps80
      go_wp2_with fail
      go_quiet (fail)
      go_wp2_with fail
      all_goals
        refine Calls.mono (call.out _ _ _ (by first | exact .inl rfl | exact .inr (List.eq_nil_of_length_eq_zero (by omega))) (by exact (by repeat (with_reducible first | exact hbel | exact Below.refl _ _ | refine Below.drew ?_ | refine Below.drewN ?_ _ | refine Below.alloc ?_ (by first | (simp; done) | (simp; omega) | omega | (have := Below.size hbel; simp; omega) | (have := Below.size hbel; omega)) _ | refine Below.setCell ?_ (by first | (simp; done) | (simp; omega) | omega) _)))) ?_
        intro e w1 hm1
        have hm2 := hm1.up (w := w) (by exact (by repeat (with_reducible first | exact hbel | exact Below.refl _ _ | refine Below.drew ?_ | refine Below.drewN ?_ _ | refine Below.alloc ?_ (by first | (simp; done) | (simp; omega) | omega | (have := Below.size hbel; simp; omega) | (have := Below.size hbel; omega)) _ | refine Below.setCell ?_ (by first | (simp; done) | (simp; omega) | omega) _)))
        clear hm1
        cases o with
        | none =>
          obtain ⟨hb2, rfl⟩ := hm2
          go_wp2_with fail
          go_ret2
          exact ⟨hb2, rfl⟩
        | some p =>
          obtain ⟨hb2, y, rfl, hy⟩ := hm2
          have hy' := Lib.hid hy
          clear hy
          go_wp2_with fail
          go_ret2
          exact ⟨hb2, y, rfl, hy'.out⟩
  · have call := Lib.hid (hmB.out (.inl h1))
    go_enter Tryz.func80, Tryz.ntmps80
    go_wp2_with fail
    go_quiet (fail)
    go_wp2_with fail
    all_goals
      refine Calls.mono (call.out _ _ _ (by first | exact .inl rfl | exact .inr (List.eq_nil_of_length_eq_zero (by omega))) (by exact (by repeat (with_reducible first | exact hbel | exact Below.refl _ _ | refine Below.drew ?_ | refine Below.drewN ?_ _ | refine Below.alloc ?_ (by first | (simp; done) | (simp; omega) | omega | (have := Below.size hbel; simp; omega) | (have := Below.size hbel; omega)) _ | refine Below.setCell ?_ (by first | (simp; done) | (simp; omega) | omega) _)))) ?_
      intro e w1 hm1
      have hm2 := hm1.up (w := w) (by exact (by repeat (with_reducible first | exact hbel | exact Below.refl _ _ | refine Below.drew ?_ | refine Below.drewN ?_ _ | refine Below.alloc ?_ (by first | (simp; done) | (simp; omega) | omega | (have := Below.size hbel; simp; omega) | (have := Below.size hbel; omega)) _ | refine Below.setCell ?_ (by first | (simp; done) | (simp; omega) | omega) _)))
      clear hm1
      cases o with
      | none =>
        obtain ⟨hb2, rfl⟩ := hm2
        go_wp2_with fail
        go_ret2
        exact ⟨hb2, rfl⟩
      | some p =>
        obtain ⟨hb2, y, rfl, hy⟩ := hm2
        have hy' := Lib.hid hy
        clear hy
        go_wp2_with fail
        go_ret2
        exact ⟨hb2, y, rfl, hy'.out⟩

theorem mp_all : ∀ k, MP k := by
  intro k
  induction k with
  | zero => intro t w D a p n c hk; have := t.sz_pos; omega
  | succ k ih =>
    intro t w D a p n c hk ht hD
    match t, hk, ht with
    | .atom s, _, ht =>
      rw [TC] at ht
      obtain ⟨hs, rfl, rfl, rfl, rfl⟩ := ht
      exact mp_atom s w
    | .node [], _, ht =>
      obtain ⟨rfl, hn, g, rfl, -, -⟩ := ht.part
      have hn' : n = 0 := hn
      subst hn'
      rw [toP_nil]
      exact mp_nil g c w
    | .node (x :: ts), hk, ht => exact mp_node k ih x ts w D p c hk a n ht hD

/-- What readProgram answers. -/
theorem readProgram_any (s : ByteArray) (w : World) : Calls Tryz.prog 46 #[.string s] w (MPost (readP s.data.toList) w) := by
  go_enter Tryz.func46, Tryz.ntmps46
  go_wp2_with fail
  refine Calls.mono (readText_any s _) ?_
  rintro e w1 ⟨hb1, hp⟩
  have hb1' := Lib.hid hb1
  rcases hp with ⟨t, a, p, l, c, hrd, rfl, htc⟩ | ⟨a, p, l, c, hrd, rfl⟩
  · have hgw : ∀ W, Below w1.heap.size w1 W → Calls Tryz.prog 80 #[.agg #[.string a, .slice p l c]] W (MPost (toP t) W) := fun W hW =>
      mp_all _ t W _ a p l c (Nat.le_refl _) (htc.below hW (fun g hg => hg.2)) (fun g hg => Nat.lt_of_lt_of_le hg.2 hW.size)
    have hgw' := Lib.hid hgw
    have hbad := Lib.hid (fun h => readP_bad hrd h)
    have hbig := Lib.hid (fun p h => readP_big (p := p) hrd h)
    have hsome := Lib.hid (fun p h => readP_some (p := p) hrd h)
    have hsz := readT_sz hrd
    clear hgw hrd htc hb1
    go_wp2_with fail
    refine Calls.mono (hgw'.out _ (by repeat (with_reducible first | exact hbel | exact Below.refl _ _ | refine Below.drew ?_ | refine Below.drewN ?_ _ | refine Below.alloc ?_ (by first | (simp; done) | (simp; omega) | omega | (have := Below.size hbel; simp; omega) | (have := Below.size hbel; omega)) _ | refine Below.setCell ?_ (by first | (simp; done) | (simp; omega) | omega) _))) ?_
    intro e w2 hm
    cases hP : toP t with
    | none =>
      rw [hP] at hm
      obtain ⟨hb2, rfl⟩ := hm
      have hno := Lib.hid (hbad.out hP)
      clear hP
      go_wp2_with fail
      go_ret2
      rw [hno.out]
      have hbel := below_step (show Below w.heap.size w _ from bb_alloc hb1'.out _) (by have := hb1'.out.size; simp) hb2
      exact ⟨hbel, rfl⟩
    | some q =>
      rw [hP] at hm
      obtain ⟨hb2, y, rfl, hy⟩ := hm
      have hb2' := Lib.hid (below_step (show Below w.heap.size w _ from bb_alloc hb1'.out _) (by have := hb1'.out.size; simp) hb2)
      have hqs : q.size ≤ 9000 := by
        obtain ⟨h1, -⟩ := toP_tree hP
        have h2 := T.atoms_sz t
        rw [h1, P.atoms_tree, ← h1] at h2
        omega
      have mq := fun w => size_m hy w
      have cq := fun x w => size_c q x w
      have hy' := Lib.hid hy
      have hsz2 := Lib.hid (fun W (hW : Below w2.heap.size w2 W) => sizeP_any q (by omega) W _ y (hy.below hW (fun g hg => hg.2)) (fun g hg => Nat.lt_of_lt_of_le hg.2 hW.size))
      have hw12 := hb2.size
      clear hy hb2
      by_cases h5 : q.size ≤ 500
      · have hyes := Lib.hid (hsome.out q hP h5)
        clear hP
        go_wp2_with (refine Calls.mono (hsz2.out _ (Below.refl _ _)) ?_; rintro e w3 ⟨rfl, hb3⟩)
        go_ret2
        rw [hyes.out]
        refine ⟨below_step hb2'.out (Nat.le_refl _) hb3, y, rfl, ?_⟩
        refine (hy'.out.below hb3 (fun g hg => hg.2)).to (fun g hg => ⟨?_, Nat.lt_of_lt_of_le hg.2 hb3.size⟩)
        have := hg.1
        simp at this
        have := hb1'.out.size
        omega
      · have hno := Lib.hid (hbig.out q hP h5)
        clear hP
        go_wp2_with (refine Calls.mono (hsz2.out _ (Below.refl _ _)) ?_; rintro e w3 ⟨rfl, hb3⟩)
        go_ret2
        rw [hno.out]
        exact ⟨below_step hb2'.out (Nat.le_refl _) hb3, rfl⟩
  · have hno := Lib.hid (readP_none hrd)
    clear hrd hb1
    go_wp2_with fail
    go_ret2
    rw [hno.out]
    have hbel := hb1'.out
    exact ⟨(by repeat (with_reducible first | exact hbel | exact Below.refl _ _ | refine Below.drew ?_ | refine Below.drewN ?_ _ | refine Below.alloc ?_ (by first | (simp; done) | (simp; omega) | omega | (have := Below.size hbel; simp; omega) | (have := Below.size hbel; omega)) _ | refine Below.setCell ?_ (by first | (simp; done) | (simp; omega) | omega) _)), rfl⟩

end Go.Proofs.YtaagbnbekfogiaaGreatDoor
