/- Assignments: impl.truthsOf, the methods 'holds'. -/
import Derived.Test.YtbglimlhffbddaaLetters
import Derived.Test.YtbglimlhffbddaaSize
import Derived.Maps.Views
import Derived.Maps.OwnSet
namespace Go.Proofs.Ytbglimlhffbddaa
set_option linter.unusedVariables false
open Go.RowKit Go.Maps

/-- Whether a formula holds where just these letters do. -/
def F.holds (L : List ByteArray) : F → Bool
  | .lt s => isIn ⟨s.toArray⟩ L
  | .an a b => a.holds L && b.holds L
  | .or a b => a.holds L || b.holds L
  | .no a => !a.holds L

theorem keyStr : Keyed Try.prog 9 := string_keyed Try.underlying9
theorem keyOf_str {s : ByteArray} (hs : s.size ≤ maxLen) : keyOf Try.prog 9 (.string s) = some (.string s.data.toList) := WideMaps.keyOf_string_mk Try.underlying9 hs
theorem elemBool (x : Bool) : plainElem (H := Unit) Try.prog 4 (.bool x) = some (.lit (.bool x), []) := plainElem_bool Try.underlying4 x

def mapD (L : List ByteArray) : DataW Unit := setOf (.lit (.bool true)) (L.map fun s => .string s.data.toList)

theorem mapD_snoc (L : List ByteArray) (s : ByteArray) : mapD (L ++ [s]) = (mapD L).put (.string s.data.toList) (.lit (.bool true)) := by
  unfold mapD
  rw [List.map_append]
  exact setOf_snoc _ _ _

theorem bytes_inj {s t : ByteArray} (h : s.data.toList = t.data.toList) : s = t := ByteArray.ext (Array.toList_inj.1 h)

theorem isIn_snoc (s t : ByteArray) (L : List ByteArray) : isIn s (L ++ [t]) = (isIn s L || decide (t = s)) := by
  unfold isIn; rw [List.any_append]; simp

theorem mapD_isMap (L : List ByteArray) : IsMap (mapD L) := by
  unfold mapD setOf
  generalize (L.map fun s => Lit.string s.data.toList) = ks
  have : ∀ (ks : List Lit) (m : DataW Unit), IsMap m → IsMap (ks.foldl (fun m x => m.put x (.lit (.bool true))) m) := by
    intro ks
    induction ks with
    | nil => intro m h; exact h
    | cons k ks ih => intro m h; exact ih _ (h.put _ _)
  exact this ks _ isMap_empty

theorem mapD_at (s : ByteArray) (L : List ByteArray) : (mapD L).atKey (.string s.data.toList) (.lit (.bool false)) = .lit (.bool (isIn s L)) := by
  have : ∀ R : List ByteArray, (mapD R.reverse).atKey (.string s.data.toList) (.lit (.bool false)) = .lit (.bool (isIn s R.reverse)) := by
    intro R
    induction R with
    | nil => rfl
    | cons t R ih =>
      rw [List.reverse_cons, mapD_snoc, isIn_snoc]
      by_cases h : t = s
      · subst h
        rw [atKey_put_same (mapD_isMap _) (by exact True.intro)]
        simp
      · rw [atKey_put_other (by intro e; injection e with e; exact h (bytes_inj e.symm)), ih]
        simp [h]
  have h := this L.reverse
  rwa [List.reverse_reverse] at h

/-- Block b is the map of just these letters. -/
def TR (w : World) (b : Nat) (L : List ByteArray) : Prop := ∃ n, w.ownsMap (H := Unit) Try.prog 9 (plainElem Try.prog 4) b n (mapD L)

theorem TR.below {w w' : World} {b : Nat} {L : List ByteArray} (h : TR w b L) (hb : Below w.heap.size w w') : TR w' b L := by
  obtain ⟨n, h⟩ := h
  exact ⟨n, h.kept (below_grown hb none) (by simp)⟩

theorem TR.lt {w : World} {b : Nat} {L : List ByteArray} (h : TR w b L) : b < w.heap.size := by
  obtain ⟨n, h⟩ := h
  exact h.lt

theorem plainElem_bool_inv {v : Value} {x : Bool} {ps : List MemPlace} (h : plainElem (H := Unit) Try.prog 4 v = some (.lit (.bool x), ps)) : v = .bool x := by
  unfold plainElem at h
  rw [Try.underlying4] at h
  split at h
  · cases h; rfl
  · simp_all
  · simp_all
  · cases h

theorem TR.look {w : World} {b : Nat} {L : List ByteArray} (h : TR w b L) (s : ByteArray) (hs : s.size ≤ maxLen) :
    (Instr.lookup 75 (.map (some b)) (.string s) false).run Try.prog w = .ok (.bool (isIn s L)) w := by
  obtain ⟨n, h⟩ := h
  obtain ⟨v, ps, hrun, hv⟩ := h.lookup keyStr Try.underlying75 (by kernel_rfl) (elemBool false) (keyOf_str hs)
  rw [mapD_at] at hv
  rw [hrun, plainElem_bool_inv hv]

/-- The method 'holds' of a formula's type. -/
def holdsFn : F → FuncId
  | .lt _ => 70
  | .an _ _ => 66
  | .or _ _ => 74
  | .no _ => 62

def HD (f : F) : Prop := ∀ (L : List ByteArray) (b : Nat) (w : World), TR w b L → Calls Try.prog (holdsFn f) #[fi f, .map (some b)] w fun e w' => e = .returned (.bool (f.holds L)) ∧ Below w.heap.size w w'

theorem holds_method (f : F) (w : World) : (method 206 (ft f) (fi f) "loop.example/classicalcontrol/impl.holds").run Try.prog w = .ok (holdsFn f, fi f) w := by
  cases f <;> kernel_rfl

theorem holds_call (f : F) (x y : Value) (w : World) : (callFunc (holdsFn f) #[x, y]).run Try.prog w = .ok (.enter (holdsFn f) #[x, y]) w := by
  cases f <;> kernel_rfl

theorem let_size {s : Bs} (h : isLet s = true) : s.length ≤ 3 := by
  cases s with
  | nil => simp
  | cons c r => simp [isLet] at h; simp; omega

theorem hd_lt (s : Bs) (hs : isLet s = true) : HD (.lt s) := by
  intro L b w ht
  show Calls Try.prog 70 #[.string ⟨s.toArray⟩, .map (some b)] w fun e w' => e = .returned (.bool (isIn ⟨s.toArray⟩ L)) ∧ _
  have hl := fun W hW => (ht.below (w' := W) hW).look ⟨s.toArray⟩ (by have := let_size hs; unfold maxLen; simp [ByteArray.size]; omega)
  have x0 := hl w (Below.refl _ _)
  generalize isIn ⟨s.toArray⟩ L = r at *
  generalize (⟨s.toArray⟩ : ByteArray) = t at *
  clear hs
  go_enter Try.func70, Try.ntmps70
  go_wp2_with fail
  go_ret
  exact ⟨rfl, (by repeat (with_reducible first | exact hbel | exact Below.refl _ _ | refine Below.drew ?_ | refine Below.drewN ?_ _ | refine Below.alloc ?_ (by first | (simp; done) | (simp; omega) | omega | (have := Below.size hbel; simp; omega) | (have := Below.size hbel; omega)) _ | refine Below.setCell ?_ (by first | (simp; done) | (simp; omega) | omega) _))⟩

theorem hd_no (a : F) (ha : Hid (HD a)) : HD (.no a) := by
  intro L b w ht
  show Calls Try.prog 62 #[.agg #[.iface (ft a) (fi a)], .map (some b)] w fun e w' => e = .returned (.bool (!a.holds L)) ∧ _
  have ma := fun w => holds_method a w
  have ca := fun x y w => holds_call a x y w
  have ht' := Lib.hid ht
  clear ht
  have haL := Lib.hid (fun W hW => ha.out L b W (ht'.out.below (w' := W) hW))
  generalize a.holds L = r at *
  go_enter Try.func62, Try.ntmps62
  go_wp2_with (refine Calls.mono (haL.out _ (by repeat (with_reducible first | exact hbel | exact Below.refl _ _ | refine Below.drew ?_ | refine Below.drewN ?_ _ | refine Below.alloc ?_ (by first | (simp; done) | (simp; omega) | omega | (have := Below.size hbel; simp; omega) | (have := Below.size hbel; omega)) _ | refine Below.setCell ?_ (by first | (simp; done) | (simp; omega) | omega) _))) ?_; rintro e w1 ⟨rfl, hb1⟩)
  go_ret
  exact ⟨rfl, below_step ((Below.refl _ _).alloc (Nat.le_refl _) _) (by simp) hb1⟩

theorem hd_an (a b : F) (ha : Hid (HD a)) (hb : Hid (HD b)) : HD (.an a b) := by
  intro L m w ht
  show Calls Try.prog 66 #[.agg #[.iface (ft a) (fi a), .iface (ft b) (fi b)], .map (some m)] w fun e w' => e = .returned (.bool (a.holds L && b.holds L)) ∧ _
  have ma := fun w => holds_method a w
  have mb := fun w => holds_method b w
  have ca := fun x y w => holds_call a x y w
  have cb := fun x y w => holds_call b x y w
  have ht' := Lib.hid ht
  clear ht
  have haL := Lib.hid (fun W hW => ha.out L m W (ht'.out.below (w' := W) hW))
  have hbL := Lib.hid (fun W hW => hb.out L m W (ht'.out.below (w' := W) hW))
  generalize a.holds L = r at *
  generalize b.holds L = s at *
  have hS := two_kept w (.iface (ft a) (fi a)) (.iface (ft b) (fi b)) 43
  go_enter Try.func66, Try.ntmps66
  go_wp2_with fail
  refine Calls.mono (haL.out _ (by repeat (with_reducible first | exact hbel | exact Below.refl _ _ | refine Below.drew ?_ | refine Below.drewN ?_ _ | refine Below.alloc ?_ (by first | (simp; done) | (simp; omega) | omega | (have := Below.size hbel; simp; omega) | (have := Below.size hbel; omega)) _ | refine Below.setCell ?_ (by first | (simp; done) | (simp; omega) | omega) _))) ?_
  rintro e w1 ⟨rfl, hb1⟩
  have hb1' : Below (w.heap.size + 1) (w.alloc (.cells #[.iface (ft a) (fi a), .iface (ft b) (fi b)] 43)) w1 := hb1.mono (by simp)
  have hbel : Below w.heap.size w w1 := below_step ((Below.refl _ _).alloc (Nat.le_refl _) _) (by simp) hb1
  obtain ⟨x0, x1⟩ := hS.out w1 hb1'
  cases r
  · go_wp2_with fail
    go_ret
    exact ⟨rfl, hbel⟩
  · go_wp2_with (refine Calls.mono (hbL.out _ hbel) ?_; rintro e w2 ⟨rfl, hb2⟩)
    go_ret
    exact ⟨rfl, below_step hbel (Nat.le_refl _) hb2⟩

theorem hd_or (a b : F) (ha : Hid (HD a)) (hb : Hid (HD b)) : HD (.or a b) := by
  intro L m w ht
  show Calls Try.prog 74 #[.agg #[.iface (ft a) (fi a), .iface (ft b) (fi b)], .map (some m)] w fun e w' => e = .returned (.bool (a.holds L || b.holds L)) ∧ _
  have ma := fun w => holds_method a w
  have mb := fun w => holds_method b w
  have ca := fun x y w => holds_call a x y w
  have cb := fun x y w => holds_call b x y w
  have ht' := Lib.hid ht
  clear ht
  have haL := Lib.hid (fun W hW => ha.out L m W (ht'.out.below (w' := W) hW))
  have hbL := Lib.hid (fun W hW => hb.out L m W (ht'.out.below (w' := W) hW))
  generalize a.holds L = r at *
  generalize b.holds L = s at *
  have hS := two_kept w (.iface (ft a) (fi a)) (.iface (ft b) (fi b)) 83
  go_enter Try.func74, Try.ntmps74
  go_wp2_with fail
  refine Calls.mono (haL.out _ (by repeat (with_reducible first | exact hbel | exact Below.refl _ _ | refine Below.drew ?_ | refine Below.drewN ?_ _ | refine Below.alloc ?_ (by first | (simp; done) | (simp; omega) | omega | (have := Below.size hbel; simp; omega) | (have := Below.size hbel; omega)) _ | refine Below.setCell ?_ (by first | (simp; done) | (simp; omega) | omega) _))) ?_
  rintro e w1 ⟨rfl, hb1⟩
  have hb1' : Below (w.heap.size + 1) (w.alloc (.cells #[.iface (ft a) (fi a), .iface (ft b) (fi b)] 83)) w1 := hb1.mono (by simp)
  have hbel : Below w.heap.size w w1 := below_step ((Below.refl _ _).alloc (Nat.le_refl _) _) (by simp) hb1
  obtain ⟨x0, x1⟩ := hS.out w1 hb1'
  cases r
  · go_wp2_with (refine Calls.mono (hbL.out _ hbel) ?_; rintro e w2 ⟨rfl, hb2⟩)
    go_ret
    exact ⟨rfl, below_step hbel (Nat.le_refl _) hb2⟩
  · go_wp2_with fail
    go_ret
    exact ⟨rfl, hbel⟩

theorem hd_any : ∀ f : F, f.ok = true → HD f
  | .lt s, h => hd_lt s h
  | .an a b, h => by rw [F.ok, Bool.and_eq_true] at h; exact hd_an a b (hd_any a h.1) (hd_any b h.2)
  | .or a b, h => by rw [F.ok, Bool.and_eq_true] at h; exact hd_or a b (hd_any a h.1) (hd_any b h.2)
  | .no a, h => by rw [F.ok] at h; exact hd_no a (hd_any a h)

end Go.Proofs.Ytbglimlhffbddaa
