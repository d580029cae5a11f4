/- What is read is a program or none: plain mathematics, and rows of programs in memory. -/
import Derived.Test.YtagafoldkfgikaaIsVar
import Derived.Test.YtagafoldkfgikaaKind
namespace Go.Proofs.Ytagafoldkfgikaa
set_option linter.unusedVariables false
open Go.RowKit

def headOf1 : List T → Bs
  | [] => []
  | x :: _ => atomOf x

/-- The parts are all programs of the kinds that the head asks. -/
def fits (h : Bs) (ts : List T) : Option (List P) := match shapeL h with
  | none => none
  | some (_, _, ks) => if ts.length = ks.length then (ts.zip ks).mapM fun (t, k) => (toP t).bind fun p => if p.kind = k then some p else none else none

theorem toP_form {x : T} {ts : List T} (hm : isMu (atomOf x) = false) {d : Bs} {k : K} {ks : List K} (hs : shapeL (atomOf x) = some (k, d, ks)) (hl : ts.length = ks.length) {qs : List P}
    (hq : ts.map toP = qs.map some) (hk : qs.map P.kind = ks) : ∃ p, toP (.node (x :: ts)) = some p ∧ IsForm p (atomOf x) qs := by
  rcases shape_some hs with ⟨l, rfl, h1, -⟩ | ⟨l, m, rfl, h2, -⟩
  · match ts, qs, hl, hq, hk with
    | [t], [q], _, hq, hk =>
      simp at hq hk
      refine ⟨.f1 (atomOf x) q, ?_, rfl, rfl⟩
      rw [toP_two, hm, if_neg (by decide), hq, mk1, h1]
      simp [hk]
    | [t], [], _, hq, _ => simp at hq
    | [t], _ :: _ :: _, _, hq, _ => simp at hq
  · match ts, qs, hl, hq, hk with
    | [t, u], [q, r], _, hq, hk =>
      simp at hq hk
      refine ⟨.f2 (atomOf x) q r, ?_, rfl, rfl⟩
      rw [toP_three, hm, if_neg (by decide), hq.1, hq.2, mk2, h2]
      simp [hk]
    | [t, u], [], _, hq, _ => simp at hq
    | [t, u], [_], _, hq, _ => simp at hq
    | [t, u], _ :: _ :: _ :: _, _, hq, _ => simp at hq

theorem toP_len {x : T} {ts : List T} (hm : isMu (atomOf x) = false) {d : Bs} {k : K} {ks : List K} (hs : shapeL (atomOf x) = some (k, d, ks)) (hl : ts.length ≠ ks.length) : toP (.node (x :: ts)) = none := by
  rcases shape_some hs with ⟨l, rfl, h1, h2⟩ | ⟨l, m, rfl, h2, h1⟩
  · match ts, hl with
    | [], _ => exact toP_one x
    | [t], hl => simp at hl
    | [t, u], _ => rw [toP_three, hm, if_neg (by decide)]; cases toP t <;> cases toP u <;> simp [mk2, h2]
    | _ :: _ :: _ :: _, _ => exact toP_many ..
  · match ts, hl with
    | [], _ => exact toP_one x
    | [t], _ => rw [toP_two, hm, if_neg (by decide)]; cases toP t <;> simp [mk1, h1]
    | [t, u], hl => simp at hl
    | _ :: _ :: _ :: _, _ => exact toP_many ..
theorem toP_head {x : T} {ts : List T} (hm : isMu (atomOf x) = false) (hs : shapeL (atomOf x) = none) : toP (.node (x :: ts)) = none := by
  obtain ⟨h1, h2⟩ := shape_none hs
  match ts with
  | [] => exact toP_one x
  | [t] => rw [toP_two, hm, if_neg (by decide)]; cases toP t <;> simp [mk1, h1]
  | [t, u] => rw [toP_three, hm, if_neg (by decide)]; cases toP t <;> cases toP u <;> simp [mk2, h2]
  | _ :: _ :: _ :: _ => exact toP_many ..
theorem toP_part {x : T} {ts : List T} (hm : isMu (atomOf x) = false) {d : Bs} {k : K} {ks : List K} (hs : shapeL (atomOf x) = some (k, d, ks)) (hl : ts.length = ks.length) {i : Nat} {t : T} {l : K}
    (ht : ts[i]? = some t) (hk : ks[i]? = some l) (hb : ∀ p, toP t = some p → p.kind ≠ l) : toP (.node (x :: ts)) = none := by
  rcases shape_some hs with ⟨a, rfl, h1, -⟩ | ⟨a, b, rfl, h2, -⟩
  · match ts, hl, i, ht, hk with
    | [u], _, 0, ht, hk =>
      simp at ht hk; subst ht; subst hk
      rw [toP_two, hm, if_neg (by decide)]
      cases hp : toP u with
      | none => rfl
      | some p => simp [mk1, h1, hb p hp]
    | [u], _, i + 1, ht, hk => simp at ht
  · match ts, hl, i, ht, hk with
    | [u, v], _, 0, ht, hk =>
      simp at ht hk; subst ht; subst hk
      rw [toP_three, hm, if_neg (by decide)]
      cases hp : toP u with
      | none => cases toP v <;> rfl
      | some p =>
        cases hq : toP v with
        | none => rfl
        | some q => simp [mk2, h2, hb p hp]
    | [u, v], _, 1, ht, hk =>
      simp at ht hk; subst ht; subst hk
      rw [toP_three, hm, if_neg (by decide)]
      cases hp : toP v with
      | none => cases toP u <;> rfl
      | some p =>
        cases hq : toP u with
        | none => rfl
        | some q => simp [mk2, h2, hb p hp]
    | [u, v], _, i + 2, ht, hk => simp at ht

/-- A row of programs. -/
def PRow (w : World) (D : Nat → Prop) : List P → List Value → Prop
  | [], xs => xs = []
  | q :: qs, xs => ∃ y ys, xs = .iface (pt q) y :: ys ∧ PI w D q y ∧ PRow w D qs ys
section
variable {w w' : World} {D D' : Nat → Prop}
theorem PRow.keep (hw : ∀ g, D g → w'.heap[g]? = w.heap[g]?) (hD : ∀ g, D g → D' g) : ∀ {qs : List P} {xs : List Value}, PRow w D qs xs → PRow w' D' qs xs
  | [], xs, h => h
  | q :: qs, xs, ⟨y, ys, hx, hp, hr⟩ => ⟨y, ys, hx, PI.keep hw hD _ _ hp, PRow.keep hw hD hr⟩
theorem PRow.snoc {q : P} {y : Value} (hq : PI w D q y) : ∀ {qs : List P} {xs : List Value}, PRow w D qs xs → PRow w D (qs ++ [q]) (xs ++ [.iface (pt q) y])
  | [], xs, h => by
    have h' : xs = [] := h
    subst h'
    exact ⟨y, [], rfl, hq, rfl⟩
  | r :: qs, xs, ⟨z, zs, hx, hr, hrs⟩ => by
    subst hx
    exact ⟨z, zs ++ [.iface (pt q) y], rfl, hr, PRow.snoc hq hrs⟩
theorem PRow.length : ∀ {qs : List P} {xs : List Value}, PRow w D qs xs → xs.length = qs.length
  | [], xs, h => by
    have h' : xs = [] := h
    subst h'; rfl
  | r :: qs, xs, ⟨z, zs, hx, hr, hrs⟩ => by subst hx; simp [PRow.length hrs]
theorem PRow.at_ : ∀ {qs : List P} {xs : List Value} {i : Nat} {q : P}, PRow w D qs xs → qs[i]? = some q → ∃ y, xs[i]? = some (.iface (pt q) y) ∧ PI w D q y
  | [], xs, i, q, h, hi => by simp at hi
  | r :: qs, xs, 0, q, ⟨z, zs, hx, hr, hrs⟩, hi => by simp at hi; subst hi; exact ⟨z, by rw [hx]; rfl, hr⟩
  | r :: qs, xs, i + 1, q, ⟨z, zs, hx, hr, hrs⟩, hi => by
    obtain ⟨y, h1, h2⟩ := PRow.at_ (i := i) hrs (by simpa using hi)
    exact ⟨y, by rw [hx]; simpa using h1, h2⟩
end

theorem prow_step {lo : Nat} {wr w1 W w2 : World} {base : Nat} {E : TypeId} {v : Value} {n m cap : Nat} {xs : List Value} {qs : List P} {q : P} {y : Value} {g : Nat}
    (hwr : lo ≤ wr.heap.size) (own : wr.ownsRow base E 1 v n xs) (kids : PRow wr (fun g => New lo wr g ∧ v.ownBlock ≠ some g) qs xs)
    (hb1 : Below wr.heap.size wr w1) (hq : PI w1 (New wr.heap.size w1) q y) (hW : Below w1.heap.size w1 W) (hgrow : W.grownBy w2 v.ownBlock)
    (hat : v.ownBlock = some g ∨ g = W.heap.size) :
    PRow w2 (fun g' => New lo w2 g' ∧ (Value.slice (some ⟨g, 0, none⟩) m cap).ownBlock ≠ some g') (qs ++ [q]) (xs ++ [.iface (pt q) y]) := by
  have s1 := hb1.size
  have s2 := hW.size
  have s3 := hgrow.size
  refine PRow.snoc ?_ ?_
  · refine PI.keep (fun g' hg => ?_) (fun g' hg => ?_) _ _ hq
    · obtain ⟨h1, h2⟩ := hg
      rw [hgrow.block g' (by omega) (fun e => ?_), hW.block g' (by omega)]
      have := own.lt g' e.symm
      omega
    · obtain ⟨h1, h2⟩ := hg
      refine ⟨⟨by omega, by omega⟩, fun e => ?_⟩
      have e' : g = g' := by simpa [Value.ownBlock] using e
      subst e'
      rcases hat with hat | hat
      · have := own.lt g hat
        omega
      · omega
  · refine PRow.keep (fun g' hg => ?_) (fun g' hg => ?_) kids
    · obtain ⟨⟨h1, h2⟩, h3⟩ := hg
      rw [hgrow.block g' (by omega) (fun e => h3 e.symm), hW.block g' (by omega), hb1.block g' h2]
    · obtain ⟨⟨h1, h2⟩, h3⟩ := hg
      refine ⟨⟨h1, by omega⟩, fun e => ?_⟩
      have e' : g = g' := by simpa [Value.ownBlock] using e
      subst e'
      rcases hat with hat | hat
      · exact h3 hat
      · omega

theorem infoProgram : (Try.prog.info? 37).map (fun i => (i.zero, i.size, i.bytes)) = some (some .nilIface, 1, 16) := by kernel_rfl

/-- A program or none is handed back. -/
def MPost (o : Option P) (w : World) (e : Ending) (w' : World) : Prop :=
  Below w.heap.size w w' ∧ match o with
    | none => e = .returned (.tuple #[.nilIface, .bool false])
    | some p => ∃ y, e = .returned (.tuple #[.iface (pt p) y, .bool true]) ∧ PI w' (New w.heap.size w') p y

def MP (k : Nat) : Prop := ∀ (t : T) (w : World) (D : Nat → Prop) (a : ByteArray) (p : Option Addr) (n c : Nat), t.sz ≤ k → TC w D t a p n c → (∀ g, D g → g < w.heap.size) →
  Calls Try.prog 32 #[.agg #[.string a, .slice p n c]] w (MPost (toP t) w)

theorem toP_ok {t : T} {p : P} (h : toP t = some p) : p.ok = true := (toP_tree h).2

theorem MP.yes {k : Nat} (h : MP k) {t : T} {p : P} (hf : toP t = some p) (w : World) {D : Nat → Prop} {a : ByteArray} {A : Option Addr} {n c : Nat} (hk : t.sz ≤ k) (ht : TC w D t a A n c) (hD : ∀ g, D g → g < w.heap.size) :
    Calls Try.prog 32 #[.agg #[.string a, .slice A n c]] w fun e w' => ∃ y, e = .returned (.tuple #[.iface (pt p) y, .bool true]) ∧ Below w.heap.size w w' ∧ PI w' (New w.heap.size w') p y :=
  (h t w D a A n c hk ht hD).mono fun e w' ⟨hb, he⟩ => by
    rw [hf] at he
    obtain ⟨y, he, hp⟩ := he
    exact ⟨y, he, hb, hp⟩
theorem MP.not {k : Nat} (h : MP k) {t : T} (hf : toP t = none) (w : World) {D : Nat → Prop} {a : ByteArray} {A : Option Addr} {n c : Nat} (hk : t.sz ≤ k) (ht : TC w D t a A n c) (hD : ∀ g, D g → g < w.heap.size) :
    Calls Try.prog 32 #[.agg #[.string a, .slice A n c]] w fun e w' => e = .returned (.tuple #[.nilIface, .bool false]) ∧ Below w.heap.size w w' :=
  (h t w D a A n c hk ht hD).mono fun e w' ⟨hb, he⟩ => by
    rw [hf] at he
    exact ⟨he, hb⟩

/-- The parts of a slice that begins at cell o of block g. -/
def Parts (w : World) (D : Nat → Prop) (g o : Nat) (ts : List T) : Prop :=
  ∀ (i : Nat) (t : T), ts[i]? = some t → ∃ a p n c, w.cell? ⟨g, o + i * 2, none⟩ = some (.string a) ∧ w.cell? ⟨g, o + i * 2 + 1, none⟩ = some (.slice p n c) ∧ TC w D t a p n c

theorem TC.textB {w : World} {D : Nat → Prop} {t : T} {a : ByteArray} {p : Option Addr} {n c : Nat} (h : TC w D t a p n c) : a = ⟨(atomOf t).toArray⟩ := by
  cases t with
  | atom s => rw [TC] at h; obtain ⟨_, rfl, _⟩ := h; rfl
  | node ps => rw [TC] at h; obtain ⟨rfl, _⟩ := h; rfl

theorem headB_any (c : UInt8) (d : Bs) (V : Value) (w : World) :
    Calls Try.prog 59 #[.agg #[.int .u8 c.toNat, str d, V]] w fun e w' => e = .returned (str (bhead (c :: d))) ∧ Below w.heap.size w w' := by
  cases hv : varB c
  · rw [show bhead (c :: d) = [109, 117] from by simp [bhead, firstIs, hv, muB]]
    go_enter Try.func59, Try.ntmps59
    go_wp2_with (go_at_call 58; refine Calls.mono (isVariable_any c d _) ?_; rintro e w1 ⟨rfl, hb1⟩)
    go_ret
    exact ⟨rfl, below_step (by repeat (with_reducible first | exact hbel | exact Below.refl _ _ | refine Below.drew ?_ | refine Below.drewN ?_ _ | refine Below.alloc ?_ (by first | (simp; done) | (simp; omega) | omega | (have := Below.size hbel; simp; omega) | (have := Below.size hbel; omega)) _ | refine Below.setCell ?_ (by first | (simp; done) | (simp; omega) | omega) _)) (by simp) hb1⟩
  · rw [show bhead (c :: d) = [116, 109, 117] from by simp [bhead, firstIs, hv, tmuB]]
    go_enter Try.func59, Try.ntmps59
    go_wp2_with (go_at_call 58; refine Calls.mono (isVariable_any c d _) ?_; rintro e w1 ⟨rfl, hb1⟩)
    go_ret
    exact ⟨rfl, below_step (by repeat (with_reducible first | exact hbel | exact Below.refl _ _ | refine Below.drew ?_ | refine Below.drewN ?_ _ | refine Below.alloc ?_ (by first | (simp; done) | (simp; omega) | omega | (have := Below.size hbel; simp; omega) | (have := Below.size hbel; omega)) _ | refine Below.setCell ?_ (by first | (simp; done) | (simp; omega) | omega) _)) (by simp) hb1⟩

theorem leaf_any (c : UInt8) (d : Bs) (w : World) :
    Calls Try.prog 45 #[nameV c d] w fun e w' => e = .returned (.iface (pt (.nm (c :: d))) (nameV c d)) ∧ Below w.heap.size w w' := by
  cases hv : varB c
  · rw [show pt (.nm (c :: d)) = 98 from by simp [pt, firstIs, hv]]
    go_enter Try.func45, Try.ntmps45
    go_wp2_with fail
    refine Calls.mono (isVariable_any c d _) ?_
    rintro e w1 ⟨rfl, hb1⟩
    obtain ⟨z0, r0, r1, -, -⟩ := two_cells ((hb1.block w.heap.size (by simp)).trans (heap_alloc_new w _))
    rw [hv]
    go_wp2_with fail
    go_ret
    exact ⟨rfl, below_step (by repeat (with_reducible first | exact hbel | exact Below.refl _ _ | refine Below.drew ?_ | refine Below.drewN ?_ _ | refine Below.alloc ?_ (by first | (simp; done) | (simp; omega) | omega | (have := Below.size hbel; simp; omega) | (have := Below.size hbel; omega)) _ | refine Below.setCell ?_ (by first | (simp; done) | (simp; omega) | omega) _)) (by simp) hb1⟩
  · rw [show pt (.nm (c :: d)) = 97 from by simp [pt, firstIs, hv]]
    go_enter Try.func45, Try.ntmps45
    go_wp2_with fail
    refine Calls.mono (isVariable_any c d _) ?_
    rintro e w1 ⟨rfl, hb1⟩
    obtain ⟨z0, r0, r1, -, -⟩ := two_cells ((hb1.block w.heap.size (by simp)).trans (heap_alloc_new w _))
    rw [hv]
    go_wp2_with fail
    go_ret
    exact ⟨rfl, below_step (by repeat (with_reducible first | exact hbel | exact Below.refl _ _ | refine Below.drew ?_ | refine Below.drewN ?_ _ | refine Below.alloc ?_ (by first | (simp; done) | (simp; omega) | omega | (have := Below.size hbel; simp; omega) | (have := Below.size hbel; omega)) _ | refine Below.setCell ?_ (by first | (simp; done) | (simp; omega) | omega) _)) (by simp) hb1⟩

end Go.Proofs.Ytagafoldkfgikaa
