/- impl.instance. (impl.givenTyping).hasNameTwice. slices.Equal of names. -/
import Derived.Test.YtdbdcfijeeelkaaMathI
import Derived.Test.YtdbdcfijeeelkaaTyHelp
import Derived.Test.YtdbdcfijeeelkaaNameSet
import Derived.Test.YtdbdcfijeeelkaaDual
import Derived.Maps.StringElems
namespace Go.Proofs.Ytdbdcfijeeelkaa
set_option linter.unusedVariables false
open Go.RowKit Go.Maps

theorem zeroStr (w : World) : (zeroValue 9).run Try.prog w = .ok (.string ⟨#[]⟩) w := by kernel_rfl
theorem keyStrI : Keyed Try.prog 9 := string_keyed Try.underlying9
theorem keyOf_strI {s : ByteArray} (hs : s.size ≤ maxLen) : keyOf Try.prog 9 (.string s) = some (.string s.data.toList) := WideMaps.keyOf_string_mk Try.underlying9 hs
theorem elemStr {s : ByteArray} (hs : s.size ≤ maxLen) : plainElem (H := Unit) Try.prog 9 (.string s) = some (.lit (.string s.data.toList), []) := plainElem_string Try.underlying9 hs

/-- What a map of texts reads as. -/
def mapA : AL → DataW Unit
  | [] => .map []
  | (k, v) :: m => (mapA m).put (.string k) (.lit (.string v))
theorem mapA_isMap : ∀ m : AL, IsMap (mapA m)
  | [] => isMap_empty
  | (k, v) :: m => (mapA_isMap m).put _ _
theorem mapA_has (s : Bs) : ∀ m : AL, has (mapA m) (.string s) = (aget s m).isSome
  | [] => rfl
  | (k, v) :: m => by
    rw [mapA, aget]
    by_cases h : k = s
    · subst h; rw [has_put_same (mapA_isMap m) (by exact True.intro), if_pos rfl]; rfl
    · rw [has_put_other (by intro e; injection e with e; exact h e.symm), if_neg h, mapA_has s m]
theorem mapA_at (s : Bs) (zd : DataW Unit) : ∀ m : AL, (mapA m).atKey (.string s) zd = match aget s m with
    | some t => .lit (.string t)
    | none => zd
  | [] => rfl
  | (k, v) :: m => by
    rw [mapA, aget]
    by_cases h : k = s
    · subst h; rw [atKey_put_same (mapA_isMap m) (by exact True.intro), if_pos rfl]
    · rw [atKey_put_other (by intro e; injection e with e; exact h e.symm), if_neg h, mapA_at s zd m]

/-- Block b is the map of what is put. -/
def IM (w : World) (b : Nat) (m : AL) : Prop := ∃ n, n ≤ m.length ∧ w.ownsMap (H := Unit) Try.prog 9 (plainElem Try.prog 9) b n (mapA m)
theorem IM.below {w w' : World} {b : Nat} {m : AL} (h : IM w b m) (hb : Below w.heap.size w w') : IM w' b m := by
  obtain ⟨n, h0, h⟩ := h
  exact ⟨n, h0, h.kept (below_grown hb none) (by simp)⟩
theorem IM.lt {w : World} {b : Nat} {m : AL} (h : IM w b m) : b < w.heap.size := by
  obtain ⟨n, h0, h⟩ := h
  exact h.lt
theorem IM.look {w : World} {b : Nat} {m : AL} (h : IM w b m) (s : ByteArray) (hs : s.size ≤ maxLen) :
    ∃ v : ByteArray, (Instr.lookup 64 (.map (some b)) (.string s) true).run Try.prog w = .ok (.tuple #[.string v, .bool (aget s.data.toList m).isSome]) w ∧ ∀ t, aget s.data.toList m = some t → v = ⟨t.toArray⟩ := by
  obtain ⟨n, h0, h⟩ := h
  obtain ⟨v, ps, hrun, hv⟩ := h.look_ok keyStrI Try.underlying64 (zeroStr w) (elemStr (s := ⟨#[]⟩) (by unfold maxLen; decide)) (keyOf_strI hs)
  obtain ⟨u, rfl, hu, hul⟩ := plainElem_string_inv Try.underlying9 hv
  rw [mapA_has] at hrun
  refine ⟨u, hrun, fun t ht => ?_⟩
  have h1 := congrArg Prod.fst hu
  simp only at h1
  rw [mapA_at, ht] at h1
  simp only [DataW.lit.injEq, Lit.string.injEq] at h1
  rw [h1]
theorem IM.put {w : World} {b : Nat} {m : AL} (h : IM w b m) (hm : m.length ≤ 100000000) (s t : ByteArray) (hs : s.size ≤ maxLen) (ht : t.size ≤ maxLen) :
    ∃ w', (Instr.mapUpdate 64 (.map (some b)) (.string s) (.string t)).run Try.prog w = .ok () w' ∧ IM w' b ((s.data.toList, t.data.toList) :: m) ∧ w.grownBy w' (some b) := by
  obtain ⟨n, h0, h⟩ := h
  obtain ⟨w', hrun, hown, hgr⟩ := h.update keyStrI Try.underlying64 (by unfold maxLen; omega) (keyOf_strI hs) (elemStr ht)
  exact ⟨w', hrun, ⟨n + 1, by simp; omega, hown⟩, hgr⟩

/-- The outcome of a call of instance. -/
def InPost (o : Option AL) (b : Nat) (w : World) (e : Ending) (w' : World) : Prop := e = .returned (.bool o.isSome) ∧ w.grownBy w' (some b) ∧ ∀ m, o = some m → IM w' b m
def IN (f : F) : Prop := ∀ (g : F) (m : AL) (b : Nat) (w : World), f.ok = true → g.ok = true → g.size ≤ 60 → m.length + f.size ≤ 100000000 → IM w b m → Calls Try.prog 32 #[fv f, fv g, .map (some b)] w (InPost (inst f g m) b w)

theorem is_letter_letter (v : Value) (w : World) : (Instr.typeAssert (.iface 81 v) 43 81 true).run Try.prog w = .ok (.tuple #[v, .bool true]) w := by kernel_rfl
theorem is_letter_conjunction (v : Value) (w : World) : (Instr.typeAssert (.iface 81 v) 43 83 true).run Try.prog w = .ok (.tuple #[.agg #[.nilIface, .nilIface], .bool false]) w := by kernel_rfl
theorem is_letter_disjunction (v : Value) (w : World) : (Instr.typeAssert (.iface 81 v) 43 85 true).run Try.prog w = .ok (.tuple #[.agg #[.nilIface, .nilIface], .bool false]) w := by kernel_rfl
theorem is_letter_opposite (v : Value) (w : World) : (Instr.typeAssert (.iface 81 v) 43 88 true).run Try.prog w = .ok (.tuple #[.agg #[.nilIface], .bool false]) w := by kernel_rfl
theorem is_conjunction_letter (v : Value) (w : World) : (Instr.typeAssert (.iface 83 v) 43 81 true).run Try.prog w = .ok (.tuple #[.string ⟨#[]⟩, .bool false]) w := by kernel_rfl
theorem is_conjunction_conjunction (v : Value) (w : World) : (Instr.typeAssert (.iface 83 v) 43 83 true).run Try.prog w = .ok (.tuple #[v, .bool true]) w := by kernel_rfl
theorem is_conjunction_disjunction (v : Value) (w : World) : (Instr.typeAssert (.iface 83 v) 43 85 true).run Try.prog w = .ok (.tuple #[.agg #[.nilIface, .nilIface], .bool false]) w := by kernel_rfl
theorem is_conjunction_opposite (v : Value) (w : World) : (Instr.typeAssert (.iface 83 v) 43 88 true).run Try.prog w = .ok (.tuple #[.agg #[.nilIface], .bool false]) w := by kernel_rfl
theorem is_disjunction_letter (v : Value) (w : World) : (Instr.typeAssert (.iface 85 v) 43 81 true).run Try.prog w = .ok (.tuple #[.string ⟨#[]⟩, .bool false]) w := by kernel_rfl
theorem is_disjunction_conjunction (v : Value) (w : World) : (Instr.typeAssert (.iface 85 v) 43 83 true).run Try.prog w = .ok (.tuple #[.agg #[.nilIface, .nilIface], .bool false]) w := by kernel_rfl
theorem is_disjunction_disjunction (v : Value) (w : World) : (Instr.typeAssert (.iface 85 v) 43 85 true).run Try.prog w = .ok (.tuple #[v, .bool true]) w := by kernel_rfl
theorem is_disjunction_opposite (v : Value) (w : World) : (Instr.typeAssert (.iface 85 v) 43 88 true).run Try.prog w = .ok (.tuple #[.agg #[.nilIface], .bool false]) w := by kernel_rfl
theorem is_opposite_letter (v : Value) (w : World) : (Instr.typeAssert (.iface 88 v) 43 81 true).run Try.prog w = .ok (.tuple #[.string ⟨#[]⟩, .bool false]) w := by kernel_rfl
theorem is_opposite_conjunction (v : Value) (w : World) : (Instr.typeAssert (.iface 88 v) 43 83 true).run Try.prog w = .ok (.tuple #[.agg #[.nilIface, .nilIface], .bool false]) w := by kernel_rfl
theorem is_opposite_disjunction (v : Value) (w : World) : (Instr.typeAssert (.iface 88 v) 43 85 true).run Try.prog w = .ok (.tuple #[.agg #[.nilIface, .nilIface], .bool false]) w := by kernel_rfl
theorem is_opposite_opposite (v : Value) (w : World) : (Instr.typeAssert (.iface 88 v) 43 88 true).run Try.prog w = .ok (.tuple #[v, .bool true]) w := by kernel_rfl

theorem InPost.none' {b : Nat} {w w' : World} (h : w.grownBy w' (some b)) : InPost none b w (.returned (.bool false)) w' := ⟨rfl, h, fun _ h => by cases h⟩
theorem InPost.some' {b : Nat} {w w' : World} {m : AL} (h : w.grownBy w' (some b)) (hm : IM w' b m) : InPost (some m) b w (.returned (.bool true)) w' := ⟨rfl, h, fun _ h => by cases h; exact hm⟩
theorem grown_of {w w' : World} {b : Nat} (h : Below w.heap.size w w') : w.grownBy w' (some b) := below_grown h _

set_option maxRecDepth 100000 in
theorem in_lt (s : Bs) : IN (.lt s) := by
  intro g m b w hf hg hg6 hml him
  show Calls Try.prog 32 #[.iface 81 (.string ⟨s.toArray⟩), .iface (ft g) (fi g), .map (some b)] w (InPost (instL s g.text m) b w)
  have q_letter := fun v w => is_letter_letter v w
  have q_conjunction := fun v w => is_letter_conjunction v w
  have q_disjunction := fun v w => is_letter_disjunction v w
  have q_opposite := fun v w => is_letter_opposite v w
  have hm2 := fun w => text_method g w
  have hx2 := fun x w => text_call g x w
  have htx := Lib.hid (text_of g hg (by omega))
  have hs3 : (⟨s.toArray⟩ : ByteArray).size ≤ maxLen := by
    have := F.text_length (f := .lt s) hf
    have e : (⟨s.toArray⟩ : ByteArray).size = s.length := by rw [ba_size]
    rw [e]; simp [F.text, F.size] at this; unfold maxLen; omega
  have hg3 : (⟨g.text.toArray⟩ : ByteArray).size ≤ maxLen := by
    have := F.text_length hg
    have e : (⟨g.text.toArray⟩ : ByteArray).size = g.text.length := by rw [ba_size]
    rw [e]; unfold maxLen; omega
  obtain ⟨v, hlk, hv⟩ := him.look ⟨s.toArray⟩ hs3
  rw [show (⟨s.toArray⟩ : ByteArray).data.toList = s from rfl] at hlk hv
  have him' := Lib.hid him
  clear him hf hg hg6
  cases hget : aget s m with
  | none =>
    rw [instL_none hget]
    rw [hget] at hlk
    rw [show (none : Option Bs).isSome = false from rfl] at hlk
    clear hv hget
    go_enter Try.func32, Try.ntmps32
    go_wp2_with fail
    refine Calls.mono (htx.out _) ?_
    rintro e w1 ⟨rfl, hb1⟩
    obtain ⟨w2, hrun, him2, hgr2⟩ := (him'.out.below (by exact hb1)).put (by simp [F.size] at hml; omega) ⟨s.toArray⟩ ⟨g.text.toArray⟩ hs3 hg3
    have hgr := Lib.hid (grown_trans' (grown_of (b := b) hb1) hgr2)
    have him2' := Lib.hid him2
    clear hb1 him2 hgr2
    go_wp2_with fail
    go_ret
    exact InPost.some' hgr.out him2'.out
  | some t =>
    rw [instL_some hget]
    rw [hget] at hlk
    obtain rfl := hv t hget
    rw [show (some t : Option Bs).isSome = true from rfl] at hlk
    clear hv hget
    by_cases ht : t = g.text
    · have hnes : (t == g.text) = true := by simp [ht]
      rw [if_pos ht]
      clear ht
      go_enter Try.func32, Try.ntmps32
      go_wp2_with fail
      refine Calls.mono (htx.out _) ?_
      rintro e w1 ⟨rfl, hb1⟩
      go_wp2_with fail
      go_ret
      exact InPost.some' (grown_of hb1) (him'.out.below hb1)
    · have hnes : (t == g.text) = false := by rw [beq_eq_false_iff_ne]; exact ht
      rw [if_neg ht]
      clear ht
      go_enter Try.func32, Try.ntmps32
      go_wp2_with fail
      refine Calls.mono (htx.out _) ?_
      rintro e w1 ⟨rfl, hb1⟩
      go_wp2_with fail
      go_ret
      exact InPost.none' (grown_of hb1)


set_option maxRecDepth 100000 in
set_option maxHeartbeats 2000000 in
theorem in_an (a b0 : F) (ha : Hid (IN a)) (hb : Hid (IN b0)) : IN (.an a b0) := by
  intro g m b w hf hg hg6 hml him
  rw [F.ok, Bool.and_eq_true] at hf
  rw [F.size] at hml
  have him' := Lib.hid him
  have hlt := him.lt
  clear him
  have q_letter := fun v w => is_conjunction_letter v w
  have q_conjunction := fun v w => is_conjunction_conjunction v w
  have q_disjunction := fun v w => is_conjunction_disjunction v w
  have q_opposite := fun v w => is_conjunction_opposite v w
  cases g with
  | lt t =>
    rw [show inst (.an a b0) (.lt t) m = none from by simp [inst]]
    show Calls Try.prog 32 #[.iface 83 (.agg #[.iface (ft a) (fi a), .iface (ft b0) (fi b0)]), .iface 81 (.string ⟨t.toArray⟩), .map (some b)] w (InPost none b w)
    have r_conjunction := fun v w => is_letter_conjunction v w
    clear him' hf hg hg6 hml
    go_enter Try.func32, Try.ntmps32
    go_wp2_with fail
    go_ret
    exact InPost.none' (grown_of (by repeat (with_reducible first | exact hbel | exact Below.refl _ _ | refine Below.drew ?_ | refine Below.drewN ?_ _ | refine Below.alloc ?_ (by first | (simp; done) | (simp; omega) | omega | (have := Below.size hbel; simp; omega) | (have := Below.size hbel; omega)) _ | refine Below.setCell ?_ (by first | (simp; done) | (simp; omega) | omega) _)))
  | or e f =>
    rw [show inst (.an a b0) (.or e f) m = none from by simp [inst]]
    show Calls Try.prog 32 #[.iface 83 (.agg #[.iface (ft a) (fi a), .iface (ft b0) (fi b0)]), .iface 85 (.agg #[.iface (ft e) (fi e), .iface (ft f) (fi f)]), .map (some b)] w (InPost none b w)
    have r_conjunction := fun v w => is_disjunction_conjunction v w
    clear him' hf hg hg6 hml
    go_enter Try.func32, Try.ntmps32
    go_wp2_with fail
    go_ret
    exact InPost.none' (grown_of (by repeat (with_reducible first | exact hbel | exact Below.refl _ _ | refine Below.drew ?_ | refine Below.drewN ?_ _ | refine Below.alloc ?_ (by first | (simp; done) | (simp; omega) | omega | (have := Below.size hbel; simp; omega) | (have := Below.size hbel; omega)) _ | refine Below.setCell ?_ (by first | (simp; done) | (simp; omega) | omega) _)))
  | no e =>
    rw [show inst (.an a b0) (.no e) m = none from by simp [inst]]
    show Calls Try.prog 32 #[.iface 83 (.agg #[.iface (ft a) (fi a), .iface (ft b0) (fi b0)]), .iface 88 (.agg #[.iface (ft e) (fi e)]), .map (some b)] w (InPost none b w)
    have r_conjunction := fun v w => is_opposite_conjunction v w
    clear him' hf hg hg6 hml
    go_enter Try.func32, Try.ntmps32
    go_wp2_with fail
    go_ret
    exact InPost.none' (grown_of (by repeat (with_reducible first | exact hbel | exact Below.refl _ _ | refine Below.drew ?_ | refine Below.drewN ?_ _ | refine Below.alloc ?_ (by first | (simp; done) | (simp; omega) | omega | (have := Below.size hbel; simp; omega) | (have := Below.size hbel; omega)) _ | refine Below.setCell ?_ (by first | (simp; done) | (simp; omega) | omega) _)))
  | an e f =>
    rw [F.ok, Bool.and_eq_true] at hg
    rw [F.size] at hg6
    rw [inst]
    show Calls Try.prog 32 #[.iface 83 (.agg #[.iface (ft a) (fi a), .iface (ft b0) (fi b0)]), .iface 83 (.agg #[.iface (ft e) (fi e), .iface (ft f) (fi f)]), .map (some b)] w (InPost ((inst a e m).bind (inst b0 f)) b w)
    have hA := Lib.hid (fun W (hW : IM W b m) => ha.out e m b W hf.1 hg.1 (by omega) (by omega) hW)
    have hB := Lib.hid (fun m1 W (h1 : inst a e m = some m1) (hW : IM W b m1) => hb.out f m1 b W hf.2 hg.2 (by omega) (by have := inst_len h1; omega) hW)
    clear hf hg hg6 hml
    generalize inst a e m = o at *
    go_enter Try.func32, Try.ntmps32
    go_wp2_with fail
    have q0 := first_alloc w (.cells #[.iface (ft a) (fi a), .iface (ft b0) (fi b0)] 83) (.cells #[.iface (ft e) (fi e), .iface (ft f) (fi f)] 83)
    have q1 := second_alloc w (.cells #[.iface (ft a) (fi a), .iface (ft b0) (fi b0)] 83) (.cells #[.iface (ft e) (fi e), .iface (ft f) (fi f)] 83)
    have hb0 : Below w.heap.size w ((w.alloc (.cells #[.iface (ft a) (fi a), .iface (ft b0) (fi b0)] 83)).alloc (.cells #[.iface (ft e) (fi e), .iface (ft f) (fi f)] 83)) := bb_alloc (bb_alloc (Below.refl _ _) _) _
    have hz0 : ((w.alloc (.cells #[.iface (ft a) (fi a), .iface (ft b0) (fi b0)] 83)).alloc (.cells #[.iface (ft e) (fi e), .iface (ft f) (fi f)] 83)).heap.size = w.heap.size + 2 := by simp
    generalize ((w.alloc (.cells #[.iface (ft a) (fi a), .iface (ft b0) (fi b0)] 83)).alloc (.cells #[.iface (ft e) (fi e), .iface (ft f) (fi f)] 83)) = w0 at *
    have hb0' := Lib.hid hb0
    clear hb0
    refine Calls.mono (hA.out w0 (him'.out.below hb0'.out)) ?_
    rintro e1 w1 ⟨rfl, hgr, hm1⟩
    have k0 := (hgr.block w.heap.size (by omega) (by simp; omega)).trans q0
    have k1 := (hgr.block (w.heap.size + 1) (by omega) (by simp; omega)).trans q1
    obtain ⟨z0, x0, x1, -, -⟩ := two_cells k0
    obtain ⟨z1, y0, y1, -, -⟩ := two_cells k1
    have hG := Lib.hid (grown_trans' (grown_of (b := b) hb0'.out) hgr)
    clear hgr k0 k1 q0 q1
    cases o with
    | none =>
      rw [show (none : Option AL).isSome = false from rfl]
      go_wp2_with fail
      go_ret
      exact InPost.none' hG.out
    | some m1 =>
      have hm1' := Lib.hid (hm1 m1 rfl)
      have hB1 := Lib.hid (hB.out m1 w1 rfl hm1'.out)
      rw [show (some m1 : Option AL).isSome = true from rfl]
      clear hB hm1
      go_wp2_with fail
      refine Calls.mono hB1.out ?_
      rintro e1 w2 ⟨rfl, hgr2, hm2⟩
      have hfin : Hid (InPost ((some m1).bind (inst b0 f)) b w (.returned (.bool (inst b0 f m1).isSome)) w2) := ⟨rfl, grown_trans' hG.out hgr2, hm2⟩
      clear hgr2 hm2
      go_wp2_with fail
      go_ret
      exact hfin.out


set_option maxRecDepth 100000 in
set_option maxHeartbeats 2000000 in
theorem in_or (a b0 : F) (ha : Hid (IN a)) (hb : Hid (IN b0)) : IN (.or a b0) := by
  intro g m b w hf hg hg6 hml him
  rw [F.ok, Bool.and_eq_true] at hf
  rw [F.size] at hml
  have him' := Lib.hid him
  have hlt := him.lt
  clear him
  have q_letter := fun v w => is_disjunction_letter v w
  have q_conjunction := fun v w => is_disjunction_conjunction v w
  have q_disjunction := fun v w => is_disjunction_disjunction v w
  have q_opposite := fun v w => is_disjunction_opposite v w
  cases g with
  | lt t =>
    rw [show inst (.or a b0) (.lt t) m = none from by simp [inst]]
    show Calls Try.prog 32 #[.iface 85 (.agg #[.iface (ft a) (fi a), .iface (ft b0) (fi b0)]), .iface 81 (.string ⟨t.toArray⟩), .map (some b)] w (InPost none b w)
    have r_disjunction := fun v w => is_letter_disjunction v w
    clear him' hf hg hg6 hml
    go_enter Try.func32, Try.ntmps32
    go_wp2_with fail
    go_ret
    exact InPost.none' (grown_of (by repeat (with_reducible first | exact hbel | exact Below.refl _ _ | refine Below.drew ?_ | refine Below.drewN ?_ _ | refine Below.alloc ?_ (by first | (simp; done) | (simp; omega) | omega | (have := Below.size hbel; simp; omega) | (have := Below.size hbel; omega)) _ | refine Below.setCell ?_ (by first | (simp; done) | (simp; omega) | omega) _)))
  | an e f =>
    rw [show inst (.or a b0) (.an e f) m = none from by simp [inst]]
    show Calls Try.prog 32 #[.iface 85 (.agg #[.iface (ft a) (fi a), .iface (ft b0) (fi b0)]), .iface 83 (.agg #[.iface (ft e) (fi e), .iface (ft f) (fi f)]), .map (some b)] w (InPost none b w)
    have r_disjunction := fun v w => is_conjunction_disjunction v w
    clear him' hf hg hg6 hml
    go_enter Try.func32, Try.ntmps32
    go_wp2_with fail
    go_ret
    exact InPost.none' (grown_of (by repeat (with_reducible first | exact hbel | exact Below.refl _ _ | refine Below.drew ?_ | refine Below.drewN ?_ _ | refine Below.alloc ?_ (by first | (simp; done) | (simp; omega) | omega | (have := Below.size hbel; simp; omega) | (have := Below.size hbel; omega)) _ | refine Below.setCell ?_ (by first | (simp; done) | (simp; omega) | omega) _)))
  | no e =>
    rw [show inst (.or a b0) (.no e) m = none from by simp [inst]]
    show Calls Try.prog 32 #[.iface 85 (.agg #[.iface (ft a) (fi a), .iface (ft b0) (fi b0)]), .iface 88 (.agg #[.iface (ft e) (fi e)]), .map (some b)] w (InPost none b w)
    have r_disjunction := fun v w => is_opposite_disjunction v w
    clear him' hf hg hg6 hml
    go_enter Try.func32, Try.ntmps32
    go_wp2_with fail
    go_ret
    exact InPost.none' (grown_of (by repeat (with_reducible first | exact hbel | exact Below.refl _ _ | refine Below.drew ?_ | refine Below.drewN ?_ _ | refine Below.alloc ?_ (by first | (simp; done) | (simp; omega) | omega | (have := Below.size hbel; simp; omega) | (have := Below.size hbel; omega)) _ | refine Below.setCell ?_ (by first | (simp; done) | (simp; omega) | omega) _)))
  | or e f =>
    rw [F.ok, Bool.and_eq_true] at hg
    rw [F.size] at hg6
    rw [inst]
    show Calls Try.prog 32 #[.iface 85 (.agg #[.iface (ft a) (fi a), .iface (ft b0) (fi b0)]), .iface 85 (.agg #[.iface (ft e) (fi e), .iface (ft f) (fi f)]), .map (some b)] w (InPost ((inst a e m).bind (inst b0 f)) b w)
    have hA := Lib.hid (fun W (hW : IM W b m) => ha.out e m b W hf.1 hg.1 (by omega) (by omega) hW)
    have hB := Lib.hid (fun m1 W (h1 : inst a e m = some m1) (hW : IM W b m1) => hb.out f m1 b W hf.2 hg.2 (by omega) (by have := inst_len h1; omega) hW)
    clear hf hg hg6 hml
    generalize inst a e m = o at *
    go_enter Try.func32, Try.ntmps32
    go_wp2_with fail
    have q0 := first_alloc w (.cells #[.iface (ft a) (fi a), .iface (ft b0) (fi b0)] 85) (.cells #[.iface (ft e) (fi e), .iface (ft f) (fi f)] 85)
    have q1 := second_alloc w (.cells #[.iface (ft a) (fi a), .iface (ft b0) (fi b0)] 85) (.cells #[.iface (ft e) (fi e), .iface (ft f) (fi f)] 85)
    have hb0 : Below w.heap.size w ((w.alloc (.cells #[.iface (ft a) (fi a), .iface (ft b0) (fi b0)] 85)).alloc (.cells #[.iface (ft e) (fi e), .iface (ft f) (fi f)] 85)) := bb_alloc (bb_alloc (Below.refl _ _) _) _
    have hz0 : ((w.alloc (.cells #[.iface (ft a) (fi a), .iface (ft b0) (fi b0)] 85)).alloc (.cells #[.iface (ft e) (fi e), .iface (ft f) (fi f)] 85)).heap.size = w.heap.size + 2 := by simp
    generalize ((w.alloc (.cells #[.iface (ft a) (fi a), .iface (ft b0) (fi b0)] 85)).alloc (.cells #[.iface (ft e) (fi e), .iface (ft f) (fi f)] 85)) = w0 at *
    have hb0' := Lib.hid hb0
    clear hb0
    refine Calls.mono (hA.out w0 (him'.out.below hb0'.out)) ?_
    rintro e1 w1 ⟨rfl, hgr, hm1⟩
    have k0 := (hgr.block w.heap.size (by omega) (by simp; omega)).trans q0
    have k1 := (hgr.block (w.heap.size + 1) (by omega) (by simp; omega)).trans q1
    obtain ⟨z0, x0, x1, -, -⟩ := two_cells k0
    obtain ⟨z1, y0, y1, -, -⟩ := two_cells k1
    have hG := Lib.hid (grown_trans' (grown_of (b := b) hb0'.out) hgr)
    clear hgr k0 k1 q0 q1
    cases o with
    | none =>
      rw [show (none : Option AL).isSome = false from rfl]
      go_wp2_with fail
      go_ret
      exact InPost.none' hG.out
    | some m1 =>
      have hm1' := Lib.hid (hm1 m1 rfl)
      have hB1 := Lib.hid (hB.out m1 w1 rfl hm1'.out)
      rw [show (some m1 : Option AL).isSome = true from rfl]
      clear hB hm1
      go_wp2_with fail
      refine Calls.mono hB1.out ?_
      rintro e1 w2 ⟨rfl, hgr2, hm2⟩
      have hfin : Hid (InPost ((some m1).bind (inst b0 f)) b w (.returned (.bool (inst b0 f m1).isSome)) w2) := ⟨rfl, grown_trans' hG.out hgr2, hm2⟩
      clear hgr2 hm2
      go_wp2_with fail
      go_ret
      exact hfin.out


set_option maxRecDepth 100000 in
set_option maxHeartbeats 2000000 in
theorem in_no (a : F) (ha : Hid (IN a)) : IN (.no a) := by
  intro g m b w hf hg hg6 hml him
  rw [F.ok] at hf
  rw [F.size] at hml
  have him' := Lib.hid him
  have hlt := him.lt
  clear him
  have q_letter := fun v w => is_opposite_letter v w
  have q_conjunction := fun v w => is_opposite_conjunction v w
  have q_disjunction := fun v w => is_opposite_disjunction v w
  have q_opposite := fun v w => is_opposite_opposite v w
  cases g with
  | lt t =>
    rw [show inst (.no a) (.lt t) m = none from by simp [inst]]
    show Calls Try.prog 32 #[.iface 88 (.agg #[.iface (ft a) (fi a)]), .iface 81 (.string ⟨t.toArray⟩), .map (some b)] w (InPost none b w)
    have r_opposite := fun v w => is_letter_opposite v w
    clear him' hf hg hg6 hml
    go_enter Try.func32, Try.ntmps32
    go_wp2_with fail
    go_ret
    exact InPost.none' (grown_of (by repeat (with_reducible first | exact hbel | exact Below.refl _ _ | refine Below.drew ?_ | refine Below.drewN ?_ _ | refine Below.alloc ?_ (by first | (simp; done) | (simp; omega) | omega | (have := Below.size hbel; simp; omega) | (have := Below.size hbel; omega)) _ | refine Below.setCell ?_ (by first | (simp; done) | (simp; omega) | omega) _)))
  | an e f =>
    rw [show inst (.no a) (.an e f) m = none from by simp [inst]]
    show Calls Try.prog 32 #[.iface 88 (.agg #[.iface (ft a) (fi a)]), .iface 83 (.agg #[.iface (ft e) (fi e), .iface (ft f) (fi f)]), .map (some b)] w (InPost none b w)
    have r_opposite := fun v w => is_conjunction_opposite v w
    clear him' hf hg hg6 hml
    go_enter Try.func32, Try.ntmps32
    go_wp2_with fail
    go_ret
    exact InPost.none' (grown_of (by repeat (with_reducible first | exact hbel | exact Below.refl _ _ | refine Below.drew ?_ | refine Below.drewN ?_ _ | refine Below.alloc ?_ (by first | (simp; done) | (simp; omega) | omega | (have := Below.size hbel; simp; omega) | (have := Below.size hbel; omega)) _ | refine Below.setCell ?_ (by first | (simp; done) | (simp; omega) | omega) _)))
  | or e f =>
    rw [show inst (.no a) (.or e f) m = none from by simp [inst]]
    show Calls Try.prog 32 #[.iface 88 (.agg #[.iface (ft a) (fi a)]), .iface 85 (.agg #[.iface (ft e) (fi e), .iface (ft f) (fi f)]), .map (some b)] w (InPost none b w)
    have r_opposite := fun v w => is_disjunction_opposite v w
    clear him' hf hg hg6 hml
    go_enter Try.func32, Try.ntmps32
    go_wp2_with fail
    go_ret
    exact InPost.none' (grown_of (by repeat (with_reducible first | exact hbel | exact Below.refl _ _ | refine Below.drew ?_ | refine Below.drewN ?_ _ | refine Below.alloc ?_ (by first | (simp; done) | (simp; omega) | omega | (have := Below.size hbel; simp; omega) | (have := Below.size hbel; omega)) _ | refine Below.setCell ?_ (by first | (simp; done) | (simp; omega) | omega) _)))
  | no e =>
    rw [F.ok] at hg
    rw [F.size] at hg6
    rw [inst]
    show Calls Try.prog 32 #[.iface 88 (.agg #[.iface (ft a) (fi a)]), .iface 88 (.agg #[.iface (ft e) (fi e)]), .map (some b)] w (InPost (inst a e m) b w)
    have hA := Lib.hid (fun W (hW : IM W b m) => ha.out e m b W hf hg (by omega) (by omega) hW)
    clear hf hg hg6 hml
    generalize inst a e m = o at *
    go_enter Try.func32, Try.ntmps32
    go_wp2_with fail
    have hb0 : Below w.heap.size w ((w.alloc (.cells #[.iface (ft a) (fi a)] 88)).alloc (.cells #[.iface (ft e) (fi e)] 88)) := bb_alloc (bb_alloc (Below.refl _ _) _) _
    refine Calls.mono (hA.out _ (him'.out.below hb0)) ?_
    rintro e1 w1 ⟨rfl, hgr, hm1⟩
    have hfin : Hid (InPost o b w (.returned (.bool o.isSome)) w1) := ⟨rfl, grown_trans' (grown_of (b := b) hb0) hgr, hm1⟩
    clear hgr hm1 hb0
    go_wp2_with fail
    go_ret
    exact hfin.out

theorem in_any : ∀ f : F, IN f
  | .lt s => in_lt s
  | .an a b => in_an a b (in_any a) (in_any b)
  | .or a b => in_or a b (in_any a) (in_any b)
  | .no a => in_no a (in_any a)

end Go.Proofs.Ytdbdcfijeeelkaa
