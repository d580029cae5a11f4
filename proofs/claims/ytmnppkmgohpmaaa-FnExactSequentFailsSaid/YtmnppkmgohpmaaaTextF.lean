/- The texts of formulas: impl's methods 'text', the model's l1Text. -/
import Derived.Test.YtmnppkmgohpmaaaFormula
import Derived.Test.YtmnppkmgohpmaaaMathT
namespace Go.Proofs.Ytmnppkmgohpmaaa
open Go.RowKit

def textFn : F → FuncId
  | .lt _ => 96
  | .an _ _ => 100
  | .or _ _ => 104
  | .no _ => 108
theorem text_method (f : F) (w : World) : (method 213 (ft f) (fi f) "loop.example/classicalcontrol/impl.text").run Try.prog w = .ok (textFn f, fi f) w := by
  cases f <;> kernel_rfl
theorem text_call (f : F) (x : Value) (w : World) : (callFunc (textFn f) #[x]).run Try.prog w = .ok (.enter (textFn f) #[x]) w := by
  cases f <;> kernel_rfl

/-- The text A is what the method answers. -/
def TX (f : F) (A : ByteArray) : Prop := ∀ w : World, Calls Try.prog (textFn f) #[fi f] w fun e w' => e = .returned (.string A) ∧ Below w.heap.size w w'

theorem text_no (a : F) (A : ByteArray) (ha : Hid (TX a A)) (hl : A.size ≤ 9000) : TX (.no a) (⟨#[40, 45, 32]⟩ ++ A ++ ⟨#[41]⟩) := by
  intro w
  show Calls Try.prog 108 #[.agg #[.iface (ft a) (fi a)]] w _
  have ma := fun w => text_method a w
  have ca := fun x w => text_call a x w
  go_enter Try.func108, Try.ntmps108
  go_wp2_with (refine Calls.mono (ha.out _) ?_; rintro e w1 ⟨rfl, hb1⟩)
  go_ret
  exact ⟨rfl, below_step ((Below.refl _ _).alloc (Nat.le_refl _) _) (by simp) hb1⟩

theorem text_lt (s : Bs) : TX (.lt s) ⟨s.toArray⟩ := by
  intro w
  show Calls Try.prog 96 #[str s] w _
  go_enter Try.func96, Try.ntmps96
  go_wp2_with fail
  go_ret
  exact ⟨rfl, (by repeat (with_reducible first | exact hbel | exact Below.refl _ _ | refine Below.drew ?_ | refine Below.drewN ?_ _ | refine Below.alloc ?_ (by first | (simp; done) | (simp; omega) | omega | (have := Below.size hbel; simp; omega) | (have := Below.size hbel; omega)) _ | refine Below.setCell ?_ (by first | (simp; done) | (simp; omega) | omega) _))⟩

theorem text_an (a b : F) (A B : ByteArray) (ha : Hid (TX a A)) (hb : Hid (TX b B)) (hA : A.size ≤ 9000) (hB : B.size ≤ 9000) : TX (.an a b) (⟨#[40, 42, 32]⟩ ++ A ++ ⟨#[32]⟩ ++ B ++ ⟨#[41]⟩) := by
  intro w
  show Calls Try.prog 100 #[.agg #[.iface (ft a) (fi a), .iface (ft b) (fi b)]] w _
  have ma := fun w => text_method a w
  have mb := fun w => text_method b w
  have ca := fun x w => text_call a x w
  have cb := fun x w => text_call b x w
  have hS := two_kept w (.iface (ft a) (fi a)) (.iface (ft b) (fi b)) 81
  have k1 := fun (w : World) => run_string_add_sum (P := Try.prog) w ⟨#[40, 42, 32]⟩ A (by show 3 + _ ≤ _; omega)
  have k2 := fun (w : World) => run_string_add_sum (P := Try.prog) w (⟨#[40, 42, 32]⟩ ++ A) ⟨#[32]⟩ (by rw [ByteArray.size_append]; show 3 + _ + 1 ≤ _; omega)
  have k3 := fun (w : World) => run_string_add_sum (P := Try.prog) w (⟨#[40, 42, 32]⟩ ++ A ++ ⟨#[32]⟩) B (by rw [ByteArray.size_append, ByteArray.size_append]; show 3 + _ + 1 + _ ≤ _; omega)
  have k4 := fun (w : World) => run_string_add_sum (P := Try.prog) w (⟨#[40, 42, 32]⟩ ++ A ++ ⟨#[32]⟩ ++ B) ⟨#[41]⟩ (by rw [ByteArray.size_append, ByteArray.size_append, ByteArray.size_append]; show 3 + _ + 1 + _ + 1 ≤ _; omega)
  go_enter Try.func100, Try.ntmps100
  go_wp2_with fail
  go_region_held3 (fun w' => w'.cell? ⟨w.heap.size, 0, none⟩ = some (.iface (ft a) (fi a)) ∧ w'.cell? ⟨w.heap.size, 1, none⟩ = some (.iface (ft b) (fi b)))
    (first | exact keep0 hS.out | exact keep1 hS.out hb1 | exact keep1 hS.out hb2 | exact keep2 hS.out hb1 hb2 | exact keep2 hS.out hb2 hb1)
    (first | (refine Calls.mono (ha.out _) ?_; rintro e w1 ⟨rfl, hb1⟩) | (refine Calls.mono (hb.out _) ?_; rintro e w2 ⟨rfl, hb2⟩))
  all_goals
    go_wp2_with fail
    go_ret
    exact ⟨rfl, (by first | exact below_step (below_step ((Below.refl _ _).alloc (Nat.le_refl _) _).drew (by simp) hb1) (by simp) hb2 | exact below_step (below_step ((Below.refl _ _).alloc (Nat.le_refl _) _).drew (by simp) hb2) (by simp) hb1)⟩

theorem text_or (a b : F) (A B : ByteArray) (ha : Hid (TX a A)) (hb : Hid (TX b B)) (hA : A.size ≤ 9000) (hB : B.size ≤ 9000) : TX (.or a b) (⟨#[40, 43, 32]⟩ ++ A ++ ⟨#[32]⟩ ++ B ++ ⟨#[41]⟩) := by
  intro w
  show Calls Try.prog 104 #[.agg #[.iface (ft a) (fi a), .iface (ft b) (fi b)]] w _
  have ma := fun w => text_method a w
  have mb := fun w => text_method b w
  have ca := fun x w => text_call a x w
  have cb := fun x w => text_call b x w
  have hS := two_kept w (.iface (ft a) (fi a)) (.iface (ft b) (fi b)) 82
  have k1 := fun (w : World) => run_string_add_sum (P := Try.prog) w ⟨#[40, 43, 32]⟩ A (by show 3 + _ ≤ _; omega)
  have k2 := fun (w : World) => run_string_add_sum (P := Try.prog) w (⟨#[40, 43, 32]⟩ ++ A) ⟨#[32]⟩ (by rw [ByteArray.size_append]; show 3 + _ + 1 ≤ _; omega)
  have k3 := fun (w : World) => run_string_add_sum (P := Try.prog) w (⟨#[40, 43, 32]⟩ ++ A ++ ⟨#[32]⟩) B (by rw [ByteArray.size_append, ByteArray.size_append]; show 3 + _ + 1 + _ ≤ _; omega)
  have k4 := fun (w : World) => run_string_add_sum (P := Try.prog) w (⟨#[40, 43, 32]⟩ ++ A ++ ⟨#[32]⟩ ++ B) ⟨#[41]⟩ (by rw [ByteArray.size_append, ByteArray.size_append, ByteArray.size_append]; show 3 + _ + 1 + _ + 1 ≤ _; omega)
  go_enter Try.func104, Try.ntmps104
  go_wp2_with fail
  go_region_held3 (fun w' => w'.cell? ⟨w.heap.size, 0, none⟩ = some (.iface (ft a) (fi a)) ∧ w'.cell? ⟨w.heap.size, 1, none⟩ = some (.iface (ft b) (fi b)))
    (first | exact keep0 hS.out | exact keep1 hS.out hb1 | exact keep1 hS.out hb2 | exact keep2 hS.out hb1 hb2 | exact keep2 hS.out hb2 hb1)
    (first | (refine Calls.mono (ha.out _) ?_; rintro e w1 ⟨rfl, hb1⟩) | (refine Calls.mono (hb.out _) ?_; rintro e w2 ⟨rfl, hb2⟩))
  all_goals
    go_wp2_with fail
    go_ret
    exact ⟨rfl, (by first | exact below_step (below_step ((Below.refl _ _).alloc (Nat.le_refl _) _).drew (by simp) hb1) (by simp) hb2 | exact below_step (below_step ((Below.refl _ _).alloc (Nat.le_refl _) _).drew (by simp) hb2) (by simp) hb1)⟩

theorem text_of : ∀ f : F, f.ok = true → f.size ≤ 1000 → TX f ⟨f.text.toArray⟩
  | .lt s, _, _ => text_lt s
  | .an a b, h, hs => by
    rw [F.ok, Bool.and_eq_true] at h
    rw [F.size] at hs
    have h1 := F.text_length h.1
    have h2 := F.text_length h.2
    have h3 := text_an a b _ _ (text_of a h.1 (by omega)) (text_of b h.2 (by omega)) (by show a.text.length ≤ _; omega) (by show b.text.length ≤ _; omega)
    have e : (⟨(F.an a b).text.toArray⟩ : ByteArray) = ⟨[40, 42, 32].toArray⟩ ++ ⟨a.text.toArray⟩ ++ ⟨[32].toArray⟩ ++ ⟨b.text.toArray⟩ ++ ⟨[41].toArray⟩ := by simp only [ba_append]; rfl
    rw [e]; exact h3
  | .or a b, h, hs => by
    rw [F.ok, Bool.and_eq_true] at h
    rw [F.size] at hs
    have h1 := F.text_length h.1
    have h2 := F.text_length h.2
    have h3 := text_or a b _ _ (text_of a h.1 (by omega)) (text_of b h.2 (by omega)) (by show a.text.length ≤ _; omega) (by show b.text.length ≤ _; omega)
    have e : (⟨(F.or a b).text.toArray⟩ : ByteArray) = ⟨[40, 43, 32].toArray⟩ ++ ⟨a.text.toArray⟩ ++ ⟨[32].toArray⟩ ++ ⟨b.text.toArray⟩ ++ ⟨[41].toArray⟩ := by simp only [ba_append]; rfl
    rw [e]; exact h3
  | .no a, h, hs => by
    rw [F.ok] at h
    rw [F.size] at hs
    have h1 := F.text_length h
    have h3 := text_no a _ (text_of a h (by omega)) (by show a.text.length ≤ _; omega)
    have e : (⟨(F.no a).text.toArray⟩ : ByteArray) = ⟨[40, 45, 32].toArray⟩ ++ ⟨a.text.toArray⟩ ++ ⟨[41].toArray⟩ := by simp only [ba_append]; rfl
    rw [e]; exact h3

/-! ### The model's text of what is read -/
def LX (k : Nat) : Prop := ∀ (t : T) (w : World) (D : Nat → Prop) (a : ByteArray) (p : Option Addr) (n c : Nat), t.sz ≤ k → t.text.length ≤ 20000 → TC w D t a p n c → (∀ g, D g → g < w.heap.size) →
  Calls Try.prog 43 #[.agg #[.string a, .slice p n c]] w fun e w' => e = .returned (.string ⟨t.text.toArray⟩) ∧ Below w.heap.size w w'

theorem text_atom (s : Bs) (hs : s ≠ []) (w : World) : Calls Try.prog 43 #[.agg #[.string ⟨s.toArray⟩, .slice none 0 0]] w fun e w' => e = .returned (.string ⟨s.toArray⟩) ∧ Below w.heap.size w w' := by
  have he : s.isEmpty = false := by cases s with
    | nil => exact absurd rfl hs
    | cons => rfl
  go_enter Try.func43, Try.ntmps43
  go_wp2_with fail
  go_ret
  exact ⟨rfl, (by repeat (with_reducible first | exact hbel | exact Below.refl _ _ | refine Below.drew ?_ | refine Below.drewN ?_ _ | refine Below.alloc ?_ (by first | (simp; done) | (simp; omega) | omega | (have := Below.size hbel; simp; omega) | (have := Below.size hbel; omega)) _ | refine Below.setCell ?_ (by first | (simp; done) | (simp; omega) | omega) _))⟩

theorem text_node (k : Nat) (H : Hid (LX k)) (ps : List T) (w : World) (D : Nat → Prop) (a : ByteArray) (p : Option Addr) (n c : Nat) (hk : (T.node ps).sz ≤ k + 1) (hk9 : k ≤ 9000) (htl : (T.node ps).text.length ≤ 20000)
    (ht : TC w D (.node ps) a p n c) (hD : ∀ g, D g → g < w.heap.size) :
    Calls Try.prog 43 #[.agg #[.string a, .slice p n c]] w fun e w' => e = .returned (.string ⟨(T.node ps).text.toArray⟩) ∧ Below w.heap.size w w' := by
  obtain ⟨rfl, rfl, g, rfl, hg, hp⟩ := ht.part
  have hlen : ps.length ≤ 9000 := by
    have h1 := length_sz ps
    rw [T.sz.eq_2] at hk
    omega
  have hp' := Lib.hid hp
  have hD' := Lib.hid hD
  have hgw := hD g hg
  have htl' : (textAll true ps).length ≤ 20000 := by rw [T.text.eq_2] at htl; simp at htl; omega
  clear hp ht hD hg htl
  go_enter Try.func43, Try.ntmps43
  go_wp2_with fail
  go_loopw [3, 4] (fun v i wr => ∃ (j : Nat) (A : ByteArray), j ≤ ps.length ∧ i = .int .i64 j ∧ v = .string A ∧ A.data.toList = 40 :: textAll true (ps.take j) ∧ Below w.heap.size w wr ∧ wr.heap[w.heap.size]? = some (.cells #[.string ⟨#[]⟩, .slice (some ⟨g, 0, none⟩) ps.length c] 37 (0, 0)))
    (fun _ i _ => ps.length - (intOf i).toNat)
  case atStart => exact ⟨0, _, Nat.zero_le _, rfl, rfl, rfl, (by repeat (with_reducible first | exact hbel | exact Below.refl _ _ | refine Below.drew ?_ | refine Below.drewN ?_ _ | refine Below.alloc ?_ (by first | (simp; done) | (simp; omega) | omega | (have := Below.size hbel; simp; omega) | (have := Below.size hbel; omega)) _ | refine Below.setCell ?_ (by first | (simp; done) | (simp; omega) | omega) _)), heap_alloc_new _ _⟩
  case round =>
    obtain ⟨j, A, hj, rfl, rfl, hA, hbel, hbox⟩ := hrel
    obtain ⟨z0, b0, b1, -, -⟩ := two_cells hbox
    have hAs : A.size ≤ 20001 := by have := textAll_take_le ps j; rw [ba_size, hA]; simp; omega
    have hA' := Lib.hid hA
    have hbox' := Lib.hid hbox
    have hbel' := Lib.hid hbel
    clear hbox hA
    by_cases hlt : j < ps.length
    · obtain ⟨t, htj⟩ : ∃ t, ps[j]? = some t := ⟨ps[j], List.getElem?_eq_getElem hlt⟩
      obtain ⟨a1, p1, n1, c1, x0, x1, t1⟩ := hp'.out j t htj
      have y0 := (hbel.cell (p := ⟨g, j * 2, none⟩) hgw).trans x0
      have y1 := (hbel.cell (p := ⟨g, j * 2 + 1, none⟩) hgw).trans x1
      have hst := Lib.hid (textAll_take htj)
      have hle := textAll_take_le ps (j + 1)
      have htt : t.text.length ≤ 20000 := by rw [hst.out] at hle; simp at hle; omega
      have t1' := Lib.hid t1
      have htk : t.sz ≤ k := by have := T.sz_part htj; omega
      obtain ⟨TT, hTT⟩ : ∃ TT : ByteArray, TT = ⟨t.text.toArray⟩ := ⟨_, rfl⟩
      have hTs : TT.size ≤ 20000 := by rw [hTT]; exact htt
      have hcall := H.out t _ D a1 p1 n1 c1 htk htt (t1.below hbel hD'.out) (fun g hg => by have := hD'.out g hg; omega)
      rw [← hTT] at hcall
      have hcall' := Lib.hid hcall
      have hTT' := Lib.hid hTT
      clear x0 x1 t1 htj hbel hle hcall hTT htt
      by_cases h0 : j = 0
      · subst h0
        go_wp2_with fail
        refine hcall'.out.mono ?_
        rintro e w1 ⟨rfl, hb1⟩
        go_wp2_with fail
        go_roundw
        case rel =>
          refine ⟨1, _, by omega, rfl, rfl, ?_, below_step hbel'.out (Nat.le_refl _) hb1, (hb1.block _ (by omega)).trans hbox'.out⟩
          rw [hst.out, ByteArray.data_append, Array.toList_append, hA'.out, hTT'.out]; simp
        case measure => simp [intOf]; omega
      · go_wp2_with fail
        refine hcall'.out.mono ?_
        rintro e w1 ⟨rfl, hb1⟩
        go_wp2_with fail
        go_roundw
        case rel =>
          refine ⟨j + 1, _, by omega, by go_num, rfl, ?_, below_step hbel'.out (Nat.le_refl _) hb1, (hb1.block _ (by omega)).trans hbox'.out⟩
          rw [hst.out, ByteArray.data_append, Array.toList_append, ByteArray.data_append, Array.toList_append, hA'.out, hTT'.out]; simp [h0]
        case measure => simp [intOf]; omega
    · have hfin : Hid (A ++ ⟨#[41]⟩ = ⟨(T.node ps).text.toArray⟩) := by
        have e := hA'.out
        rw [show j = ps.length from by omega, List.take_length] at e
        apply ByteArray.ext
        rw [ByteArray.data_append, T.text.eq_2]
        apply Array.toList_inj.1
        rw [Array.toList_append, e]
      go_wp2_with fail
      go_ret
      exact ⟨by rw [← hfin.out]; rfl, hbel'.out⟩

theorem text_all : ∀ k, k ≤ 9001 → LX k := by
  intro k
  induction k with
  | zero => intro _ t w D a p n c hk; have := t.sz_pos; omega
  | succ k ih =>
    intro hk9 t w D a p n c hk hl ht hD
    match t, hk, hl, ht with
    | .atom s, _, _, ht =>
      rw [TC] at ht
      obtain ⟨hs, rfl, rfl, rfl, rfl⟩ := ht
      exact text_atom s hs w
    | .node ps, hk, hl, ht => exact text_node k (ih (by omega)) ps w D a p n c hk (by omega) hl ht hD

/-- The model's text of a formula. -/
theorem text_calls {w : World} {D : Nat → Prop} {f : F} {a : ByteArray} {p : Option Addr} {n c : Nat} (hok : f.ok = true) (hf : f.size ≤ 1000) (ht : TC w D f.tree a p n c) (hD : ∀ g, D g → g < w.heap.size) :
    Calls Try.prog 43 #[.agg #[.string a, .slice p n c]] w fun e w' => e = .returned (.string ⟨f.text.toArray⟩) ∧ Below w.heap.size w w' := by
  have h := text_all 9000 (by omega) f.tree w D a p n c (by have := f.sz_tree; omega) (by rw [F.text_tree]; have := F.text_length hok; omega) ht hD
  rw [F.text_tree] at h
  exact h

end Go.Proofs.Ytmnppkmgohpmaaa
