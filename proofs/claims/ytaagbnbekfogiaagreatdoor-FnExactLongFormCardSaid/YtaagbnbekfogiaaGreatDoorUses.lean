/- Lists of names in memory, impl.without, and the methods 'uses' of programs. -/
import Derived.Test.YtaagbnbekfogiaaGreatDoorRowNm
import Derived.Test.YtaagbnbekfogiaaGreatDoorOnce
import Derived.Test.YtaagbnbekfogiaaGreatDoorTextP
import Derived.Test.YtaagbnbekfogiaaGreatDoorMathU
import Derived.Test.YtaagbnbekfogiaaGreatDoorMathC
import Derived.Test.YtaagbnbekfogiaaGreatDoorRowB
import Derived.Test.YtaagbnbekfogiaaGreatDoorListT
import Derived.Deep.Onto
namespace Go.Proofs.YtaagbnbekfogiaaGreatDoor
set_option linter.unusedVariables false
open Go.RowKit

/-- Each program's type answers with its free names. -/
def US (p : P) : Prop := ∀ (w : World) (D : Nat → Prop) (x : Value), PI w D p x → (∀ g, D g → g < w.heap.size) → Calls Tryz.prog (usesFn p) #[x] w (UPost p.uses w)

theorem UPost.up {l : List Bs} {w W w' : World} {e : Ending} (h : UPost l W e w') (hW : Below w.heap.size w W) : UPost l w e w' := by
  obtain ⟨A, c, he, own, hb⟩ := h
  exact ⟨A, c, he, World.ownsRow.mono own hW.size, below_step hW (Nat.le_refl _) hb⟩

theorem uses_nm (s : Bs) : US (.nm s) := by
  intro w D x h _
  obtain ⟨c, d, rfl, rfl⟩ := h
  rw [show usesFn (.nm (c :: d)) = 192 from by simp [usesFn, mfn]]
  have hfin : Hid (UPost [c :: d] w (.returned (.slice (some ⟨w.heap.size + 1, 0, none⟩) 1 1)) ((w.alloc (.cells #[.int .u8 c.toNat, str d] 41)).alloc (.cells #[.int .u8 c.toNat, str d] 41))) :=
    ⟨_, _, rfl, own_block _ (by omega) (second_alloc _ _ _), bb_alloc2 (Below.refl _ _) _ _ (Nat.le_refl _)⟩
  show Calls _ _ _ _ (UPost [c :: d] w)
  go_enter Tryz.func192, Tryz.ntmps192
  go_wp2_with fail
  go_ret
  exact hfin.out

set_option maxRecDepth 100000 in
theorem uses_bd (s : Bs) (b : P) (hu : ∀ x ∈ b.uses, x ≠ []) (hn : b.uses.length ≤ 100000) (hb : Hid (US b)) : US (.bd s b) := by
  intro w D x h hD
  obtain ⟨c, d, y, rfl, rfl, hy⟩ := h
  show Calls _ 200 _ _ (UPost (minus b.uses (c :: d)) w)
  have mb := fun w => uses_m hy w
  have cb := fun x w => uses_c b x w
  have hy' := Lib.hid hy
  have hD' := Lib.hid hD
  have hu' := Lib.hid hu
  have hS := three_kept w (.int .u8 c.toNat) (str d) (.iface (pt b) y) 46
  clear hy hD hu
  go_enter Tryz.func200, Tryz.ntmps200
  go_wp2_with fail
  go_region_held3 (fun w' => w'.cell? ⟨w.heap.size, 0, none⟩ = some (.int .u8 c.toNat) ∧ w'.cell? ⟨w.heap.size, 1, none⟩ = some (str d) ∧ w'.cell? ⟨w.heap.size, 2, none⟩ = some (.iface (pt b) y))
    (first | exact keep0 hS.out | exact keep1 hS.out hb1 | exact keep2 hS.out hb1 hb2)
    (first
      | (go_at_call 159; refine Calls.mono (without_any A1 _ c1 b.uses (c :: d) (by simp) hu'.out hn _ (RowN.of_own own1)) ?_; rintro e w2 ⟨A2, c2, rfl, own2, hb2⟩)
      | (refine Calls.mono (hb.out _ D _ (hy'.out.below (by repeat (with_reducible first | exact hbel | exact Below.refl _ _ | refine Below.drew ?_ | refine Below.drewN ?_ _ | refine Below.alloc ?_ (by first | (simp; done) | (simp; omega) | omega | (have := Below.size hbel; simp; omega) | (have := Below.size hbel; omega)) _ | refine Below.setCell ?_ (by first | (simp; done) | (simp; omega) | omega) _)) hD'.out) (fun g hg => by have := hD'.out g hg; simp; omega)) ?_; rintro e w1 ⟨A1, c1, rfl, own1, hb1⟩))
  go_wp2_with fail
  go_ret
  exact ⟨A2, c2, rfl, World.ownsRow.mono own2 (by have := hb1.size; simp at this; omega), below_step (below_step (by repeat (with_reducible first | exact hbel | exact Below.refl _ _ | refine Below.drew ?_ | refine Below.drewN ?_ _ | refine Below.alloc ?_ (by first | (simp; done) | (simp; omega) | omega | (have := Below.size hbel; simp; omega) | (have := Below.size hbel; omega)) _ | refine Below.setCell ?_ (by first | (simp; done) | (simp; omega) | omega) _)) (by simp) hb1) (Nat.le_refl _) hb2⟩

def usesL (l : List P) : List Bs := l.flatMap P.uses
theorem usesL_take {l : List P} {j : Nat} {q : P} (h : l[j]? = some q) : usesL (l.take (j + 1)) = usesL (l.take j) ++ q.uses := by
  rw [List.take_add_one, h]; simp [usesL]

set_option maxRecDepth 100000 in
theorem uses_form (p : P) (h : Bs) (ks : List P) (hf : IsForm p h ks) (hk : ∀ q ∈ ks, Hid (US q)) (hn : ∀ j, (usesL (ks.take j)).length ≤ 100000) (w : World) (D : Nat → Prop) (x : Value) (hx : PI w D p x) (hD : ∀ g, D g → g < w.heap.size) :
    Calls Tryz.prog 207 #[x] w (UPost (usesL ks) w) := by
  obtain ⟨g, n, rfl, hg, hc⟩ := hx.form hf
  obtain ⟨i0, hi0, hz0, hz1, hz2⟩ := info_parts infoName
  have hgw := hD g hg
  have hks := hf.len
  have hk' := Lib.hid hk
  have hD' := Lib.hid hD
  have hc' := Lib.hid hc
  have hn' := Lib.hid hn
  clear hk hD hc hx hn
  go_enter Tryz.func207, Tryz.ntmps207
  go_wp2_with fail
  go_loopw [3, 9] (fun v i wr => ∃ (j : Nat) (A1 : Option Addr) (c1 : Nat), j ≤ ks.length ∧ i = .int .i64 j ∧ v = .slice A1 (usesL (ks.take j)).length c1 ∧ wr.ownsRow w.heap.size 41 2 (.slice A1 (usesL (ks.take j)).length c1) (usesL (ks.take j)).length (NVs (usesL (ks.take j))) ∧ Below w.heap.size w wr) (fun _ i _ => ks.length - (intOf i).toNat)
  case atStart => exact ⟨0, none, 0, Nat.zero_le _, rfl, rfl, World.ownsRow_nil _ _ _ _, (by repeat (with_reducible first | exact hbel | exact Below.refl _ _ | refine Below.drew ?_ | refine Below.drewN ?_ _ | refine Below.alloc ?_ (by first | (simp; done) | (simp; omega) | omega | (have := Below.size hbel; simp; omega) | (have := Below.size hbel; omega)) _ | refine Below.setCell ?_ (by first | (simp; done) | (simp; omega) | omega) _))⟩
  case round =>
    obtain ⟨j, A1, c1, hj, rfl, rfl, own1, hbel⟩ := hrel
    have hbel' := Lib.hid hbel
    have own1' := Lib.hid own1
    clear own1
    by_cases hlt : j < ks.length
    · obtain ⟨q, hq⟩ : ∃ q, ks[j]? = some q := ⟨ks[j], List.getElem?_eq_getElem _⟩
      obtain ⟨y, hy, hpi⟩ := hc'.out j q hq
      have hy1 := (hbel.cell (p := ⟨g, j, none⟩) hgw).trans hy
      have hsum := Lib.hid (usesL_take hq)
      have hn1 := hn'.out (j + 1)
      have hn2 : (usesL (ks.take j)).length + q.uses.length ≤ 100000 := by rw [hsum.out, List.length_append] at hn1; exact hn1
      have hUS := hk'.out q (List.mem_of_getElem? hq)
      have mq := fun w => uses_m hpi w
      have cq := fun x w => uses_c q x w
      have hpi' := Lib.hid hpi
      clear hy hpi hq hbel hn1
      go_wp2_with fail
      refine Calls.mono (hUS.out _ D _ (hpi'.out.below hbel'.out hD'.out) (fun g hg => by have := hD'.out g hg; have := hbel'.out.size; omega)) ?_
      rintro e w1 ⟨A2, c2, rfl, own2, hb1⟩
      have own1'' := Lib.hid (own_below own1'.out hb1)
      have own2' := Lib.hid own2
      have hs1 := hbel'.out.size
      have hs2 := hb1.size
      have hb1' := Lib.hid (below_step hbel'.out (Nat.le_refl _) hb1)
      clear own2 hb1 own1'
      go_wp2_with (first
        | (at_builtin; go_loud (refine wpList_append_row rfl (.tmp 13) (.tmp 15) 85 rfl w.heap.size 41 i0 _ 2 24 Tryz.underlying85 hi0 hz0 hz1 hz2 rfl (by decide) _ _ _ rfl own1''.out wr.heap.size _ _ _ rfl own2'.out ?c1 ?c2 ?c3 ?c4 ?_))
        | fail)
      case c1 => exact NVs_one _
      case c2 => unfold maxLen; omega
      case c3 => omega
      case c4 => omega
      intro A3 c3 w2 own3 hgrow
      have hfin := Lib.hid (show w2.ownsRow w.heap.size 41 2 (.slice A3 (usesL (ks.take (j + 1))).length c3) (usesL (ks.take (j + 1))).length (NVs (usesL (ks.take (j + 1)))) from by
        rw [hsum.out, NVs_append, List.length_append]; exact own3)
      have hlen := Lib.hid (show (usesL (ks.take (j + 1))).length = (usesL (ks.take j)).length + q.uses.length from by rw [hsum.out, List.length_append])
      have hb2 := Lib.hid (hb1'.out.grown hgrow (by omega) (fun k hk => (own1''.out.lt k hk).1))
      clear own3 hgrow
      go_wp2_with fail
      go_roundw
      case rel => exact ⟨j + 1, A3, c3, by omega, by go_num, by rw [hlen.out], hfin.out, hb2.out⟩
      case measure => simp [intOf]; omega
    · have e : j = ks.length := by omega
      subst e
      have hsum : usesL (ks.take ks.length) = usesL ks := by rw [List.take_of_length_le (by simp)]
      rw [hsum] at own1' ⊢
      go_wp2_with fail
      go_ret
      exact ⟨A1, c1, rfl, own1'.out, hbel'.out⟩

theorem P.uses_ne {p : P} (h : p.ok = true) : ∀ x ∈ p.uses, x ≠ [] := fun x hx => isName_ne (P.uses_name h x hx)
theorem uses_nok : ∀ {p : P}, p.nok = true → p.size ≤ 99000 → US p
  | .nm s, _, _ => uses_nm s
  | .f1 h p, hk, hs => fun w D x hx hD => by
    rw [P.nok] at hk
    rw [P.size] at hs
    have H := uses_nok hk (by omega)
    have hl := p.uses_len
    have e : usesL [p] = (P.f1 h p).uses := by simp [usesL, P.uses]
    rw [← e]
    refine uses_form (.f1 h p) h [p] ⟨rfl, rfl⟩ (fun q hq => by simp at hq; subst hq; exact H) (fun j => ?_) w D x hx hD
    match j with
    | 0 => simp [usesL]
    | j + 1 => simp [usesL]; omega
  | .f2 h p q, hk, hs => fun w D x hx hD => by
    rw [P.nok, Bool.and_eq_true] at hk
    rw [P.size] at hs
    have H := uses_nok hk.1 (by omega)
    have H' := uses_nok hk.2 (by omega)
    have hl := p.uses_len
    have hl' := q.uses_len
    have e : usesL [p, q] = (P.f2 h p q).uses := by simp [usesL, P.uses]
    rw [← e]
    refine uses_form (.f2 h p q) h [p, q] ⟨rfl, rfl⟩ (fun r hr => by simp at hr; rcases hr with rfl | rfl; exact H; exact H') (fun j => ?_) w D x hx hD
    match j with
    | 0 => simp [usesL]
    | 1 => simp [usesL]; omega
    | j + 2 => simp [usesL]; omega
  | .bd s b, hk, hs => by
    rw [P.nok, Bool.and_eq_true] at hk
    rw [P.size] at hs
    have hl := b.uses_len
    exact uses_bd s b (fun x hx => nmB_ne (P.uses_nm hk.2 x hx)) (by omega) (uses_nok hk.2 (by omega))

theorem uses_any {p : P} (hk : p.ok = true) (hs : p.size ≤ 1000) : US p := uses_nok (P.nok_ok hk) (by omega)

end Go.Proofs.YtaagbnbekfogiaaGreatDoor
