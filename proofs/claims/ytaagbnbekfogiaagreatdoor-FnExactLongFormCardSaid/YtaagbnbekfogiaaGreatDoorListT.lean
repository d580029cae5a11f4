/- spec.l1List. -/
import Derived.Test.YtaagbnbekfogiaaGreatDoorHead
namespace Go.Proofs.YtaagbnbekfogiaaGreatDoor
set_option linter.unusedVariables false
open Go.RowKit


/-! ### The model -/
/-- A call hands back the tree t, which reads what D allows and what is new; and it only makes memory. -/
def TreeRet (D : Nat → Prop) (t : T) (w : World) (e : Ending) (w' : World) : Prop :=
  ∃ a p n c, e = .returned (.agg #[.string a, .slice p n c]) ∧ TC w' (DN D w.heap.size w') t a p n c ∧ Below w.heap.size w w'

/-- A slice that the text itself writes out is a row of the call's own. -/
theorem own_block {w : World} {g : Nat} {E : TypeId} {x y : Value} (base : Nat) (hb : base ≤ g) (h : w.heap[g]? = some (.cells #[x, y] E (0, 0))) : w.ownsRow base E 2 (.slice (some ⟨g, 0, none⟩) 1 1) 1 [x, y] :=
  ⟨rfl, .inr ⟨g, 1, #[x, y], rfl, hb, h, Nat.le_refl _, by unfold maxLen; omega, rfl, rfl⟩⟩

theorem l1List_any (h : Bs) (hh : h ≠ []) (ps : List T) (xs : List Value) (g c : Nat) (w : World) (D : Nat → Prop) (hk : Kids w D ps xs) (hcells : ∀ (j : Nat) (u : Value), xs[j]? = some u → w.cell? ⟨g, j, none⟩ = some u)
    (hD : ∀ g, D g → g < w.heap.size) (hg : g < w.heap.size) (hps : 1 ≤ ps.length) (hps9 : ps.length ≤ 9000) :
    Calls Tryz.prog 20 #[.string ⟨h.toArray⟩, .slice (some ⟨g, 0, none⟩) ps.length c] w (TreeRet D (.node (.atom h :: ps)) w) := by
  obtain ⟨i0, hi0, hz0, hz1, hz2⟩ := info_parts infoTree
  have hk' := Lib.hid hk
  have hc' := Lib.hid hcells
  have hD' := Lib.hid hD
  have hxl := Lib.hid (Kids.length hk)
  clear hk hcells hD
  go_enter Tryz.func20, Tryz.ntmps20
  go_wp2_with (first
    | (at_builtin; go_loud (refine wpList_append_lies _ rfl (.tmp 7) (.tmp 8) 27 rfl (w.heap.size + 1) 29 i0 _ 2 40 Tryz.underlying27 hi0 hz0 hz1 hz2 rfl (by decide) _ _ _ rfl (own_block _ ?c0 (second_alloc _ _ _)) ⟨g, 0, none⟩ ps.length c xs rfl hxl.out ?c1 ?c2 hps ?c3 ?c4 ?c5 _ rfl ?_))
    | fail)
  case c0 => exact Nat.le_refl _
  case c1 =>
    intro j u hu
    have hlt := (List.getElem?_eq_some_iff.1 hu).1
    have e : ({ block := g, off := 0, spot := none } : Addr).add j = ⟨g, j, none⟩ := by unfold Addr.add; split <;> simp_all
    rw [e, World.cell?_alloc_lt _ _ _ (by simp; omega), World.cell?_alloc_lt _ _ _ hg]
    exact hc'.out j u hu
  case c2 => exact hk'.out.oneCell
  case c3 => unfold maxLen; omega
  case c4 => omega
  case c5 => simp
  intro g1 cap w2 hown hgrow hat hlt
  have hW : Below w.heap.size w ((w.alloc (.cells #[.string ⟨#[]⟩, .slice none 0 0] 29)).alloc (.cells #[.string ⟨h.toArray⟩, .slice none 0 0] 29)) := ((Below.refl _ _).alloc (Nat.le_refl _) _).alloc (by simp) _
  have hres : w2.heap[w.heap.size]? = some (.cells #[.string ⟨#[]⟩, .slice none 0 0] 29 (0, 0)) := by
    rw [hgrow.block _ (by simp; omega) (by simp [Value.ownBlock]), first_alloc]
  have hbel : Below w.heap.size w w2 := hW.grown hgrow (by simp; omega) (fun j hj => by simp [Value.ownBlock] at hj; omega)
  have hg1 := hown.lt g1 rfl
  obtain ⟨z0, r0, r1, f0, f1⟩ := two_cells hres
  have hown' := Lib.hid hown
  have hbel' := Lib.hid hbel
  clear hown hgrow hat hlt hW hres hbel
  go_wp2_with fail
  refine bodyPost_ret (v := .agg #[.string ⟨#[]⟩, .slice (some ⟨g1, 0, none⟩) (1 + ps.length) cap]) (by simp [results, Tryz.results20, go_sem, r0, r1]) rfl ?_
  have hbel := hbel'.out
  have hsame : ∀ (W : World), (∀ j, j ≠ w.heap.size → W.heap[j]? = w2.heap[j]?) → W.heap.size = w2.heap.size → TC W (DN D w.heap.size W) (.node (.atom h :: ps)) ⟨#[]⟩ (some ⟨g1, 0, none⟩) (1 + ps.length) cap := by
    intro W hj hs
    refine ⟨rfl, ⟨by simp; omega, own_cap hown'.out⟩, g1, _, rfl, .inr ⟨by omega, by omega⟩, ⟨_, _, _, _, _, rfl, ⟨hh, rfl, rfl, rfl, rfl⟩, Kids.keep (fun g' hg' => ?_) (fun g' hg' => .inl hg') _ _ hk'.out⟩, fun j u hu => ?_⟩
    · rw [hj g' (by have := hD'.out g' hg'; omega), hbel.block g' (hD'.out g' hg')]
    · have h1 := hown'.out.cells (g := g1) rfl j u hu
      have e : ({ block := g1, off := 0, spot := none } : Addr).add j = ⟨g1, j, none⟩ := by unfold Addr.add; split <;> simp_all
      rw [e] at h1
      exact (World.cell?_of_block (a := ⟨g1, j, none⟩) (hj g1 (by omega))).trans h1
  exact ⟨_, _, _, _, rfl, hsame _ (fun j hj => same_set w2 w.heap.size _ _ j hj) (by simp), (by repeat (with_reducible first | exact hbel | exact Below.refl _ _ | refine Below.drew ?_ | refine Below.drewN ?_ _ | refine Below.alloc ?_ (by first | (simp; done) | (simp; omega) | omega | (have := Below.size hbel; simp; omega) | (have := Below.size hbel; omega)) _ | refine Below.setCell ?_ (by first | (simp; done) | (simp; omega) | omega) _))⟩

theorem list2 (h : Bs) (hh : h ≠ []) (x y : T) {D : Nat → Prop} {w : World} {u1 u2 : ByteArray} {v1 v2 : Option Addr} {m1 d1 m2 d2 : Nat} (hD : ∀ g, D g → g < w.heap.size) (tx : TC w D x u1 v1 m1 d1) (ty : TC w D y u2 v2 m2 d2) :
    Calls Tryz.prog 20 #[.string ⟨h.toArray⟩, .slice (some ⟨w.heap.size, 0, none⟩) 2 2] (w.alloc (.cells #[.string u1, .slice v1 m1 d1, .string u2, .slice v2 m2 d2] 29))
      (TreeRet D (.node [.atom h, x, y]) (w.alloc (.cells #[.string u1, .slice v1 m1 d1, .string u2, .slice v2 m2 d2] 29))) := by
  have hb : Below w.heap.size w (w.alloc (.cells #[.string u1, .slice v1 m1 d1, .string u2, .slice v2 m2 d2] 29)) := (Below.refl _ _).alloc (Nat.le_refl _) _
  exact l1List_any h hh [x, y] [.string u1, .slice v1 m1 d1, .string u2, .slice v2 m2 d2] w.heap.size 2 _ D ⟨_, _, _, _, _, rfl, tx.below hb hD, _, _, _, _, _, rfl, ty.below hb hD, rfl⟩
    (fun j u hu => block_cells (heap_alloc_new _ _) j u hu) (fun g hg => by have := hD g hg; simp; omega) (by simp) (by simp) (by simp)
theorem list1 (h : Bs) (hh : h ≠ []) (x : T) {D : Nat → Prop} {w : World} {u1 : ByteArray} {v1 : Option Addr} {m1 d1 : Nat} (hD : ∀ g, D g → g < w.heap.size) (tx : TC w D x u1 v1 m1 d1) :
    Calls Tryz.prog 20 #[.string ⟨h.toArray⟩, .slice (some ⟨w.heap.size, 0, none⟩) 1 1] (w.alloc (.cells #[.string u1, .slice v1 m1 d1] 29))
      (TreeRet D (.node [.atom h, x]) (w.alloc (.cells #[.string u1, .slice v1 m1 d1] 29))) := by
  have hb : Below w.heap.size w (w.alloc (.cells #[.string u1, .slice v1 m1 d1] 29)) := (Below.refl _ _).alloc (Nat.le_refl _) _
  exact l1List_any h hh [x] [.string u1, .slice v1 m1 d1] w.heap.size 1 _ D ⟨_, _, _, _, _, rfl, tx.below hb hD, rfl⟩
    (fun j u hu => block_cells (heap_alloc_new _ _) j u hu) (fun g hg => by have := hD g hg; simp; omega) (by simp) (by simp) (by simp)

end Go.Proofs.YtaagbnbekfogiaaGreatDoor
