/- Whole texts: impl.readText and spec.l1Parse hand back what 'readT' says. -/
import Derived.Test.YtaagbnbekfogiaaGreatDoorReadSpec
namespace Go.Proofs.YtaagbnbekfogiaaGreatDoor
set_option linter.unusedVariables false
open Go.RowKit

def TPost (s : Bs) (w : World) (e : Ending) (w' : World) : Prop :=
  Below w.heap.size w w' ∧
    ((∃ t a p l c, readT s = some t ∧ e = .returned (.tuple #[.agg #[.string a, .slice p l c], .bool true]) ∧ TC w' (New w.heap.size w') t a p l c) ∨
     (∃ a p l c, readT s = none ∧ e = .returned (.tuple #[.agg #[.string a, .slice p l c], .bool false])))

set_option maxRecDepth 100000 in
theorem readText_any (s : ByteArray) (w : World) :
    Calls Tryz.prog 79 #[.string s] w (TPost s.data.toList w) := by
  have no : ∀ w', readT s.data.toList = none → Below w.heap.size w w' → TPost s.data.toList w (.returned (.tuple #[.agg #[.string ⟨#[]⟩, .slice none 0 0], .bool false])) w' := fun w' h hb => ⟨hb, .inr ⟨_, _, _, _, h, rfl⟩⟩
  have no' := Lib.hid no
  clear no
  by_cases hlen : 6000 < s.size
  · go_enter Tryz.func79, Tryz.ntmps79
    go_wp2_with fail
    refine bodyPost_ret (v := .tuple #[.agg #[.string ⟨#[]⟩, .slice none 0 0], .bool false]) (by simp [results, Tryz.results79, go_sem]) rfl ?_
    exact no'.out _ (readT_long (by rw [← ba_size]; exact hlen)) (by repeat (with_reducible first | exact hbel | exact Below.refl _ _ | refine Below.drew ?_ | refine Below.drewN ?_ _ | refine Below.alloc ?_ (by first | (simp; done) | (simp; omega) | omega | (have := Below.size hbel; simp; omega) | (have := Below.size hbel; omega)) _ | refine Below.setCell ?_ (by first | (simp; done) | (simp; omega) | omega) _))
  · go_enter Tryz.func79, Tryz.ntmps79
    go_wp2_with fail
    refine (part_any 200 (Nat.le_refl _) s _ (by omega)).mono ?_
    rintro e w1 ⟨hb1, hp⟩
    obtain ⟨z0, r0, r1, f0, f1⟩ := two_cells ((hb1.block w.heap.size (by simp)).trans (heap_alloc_new w _))
    have hbel' := Lib.hid (Below.trans (show Below w.heap.size w (w.alloc _) from (Below.refl _ _).alloc (Nat.le_refl _) _) (hb1.mono (by simp)))
    clear hb1
    rcases hp with ⟨t, q, a, p, l, c, hrd, rfl, htc⟩ | ⟨a, p, l, c, r, hrd, rfl⟩
    · have hrd' := Lib.hid hrd
      have htc' := Lib.hid htc
      clear hrd htc
      cases q with
      | nil =>
        go_wp2_with fail
        refine bodyPost_ret (v := .tuple #[.agg #[.string a, .slice p l c], .bool true]) (by simp [results, Tryz.results79, go_sem, r0, r1, z0]) rfl ?_
        refine ⟨by have hbel := hbel'.out; exact (by repeat (with_reducible first | exact hbel | exact Below.refl _ _ | refine Below.drew ?_ | refine Below.drewN ?_ _ | refine Below.alloc ?_ (by first | (simp; done) | (simp; omega) | omega | (have := Below.size hbel; simp; omega) | (have := Below.size hbel; omega)) _ | refine Below.setCell ?_ (by first | (simp; done) | (simp; omega) | omega) _)), .inl ⟨_, _, _, _, _, readT_some (by rw [← ba_size]; exact hlen) hrd'.out, rfl, ?_⟩⟩
        refine TC.keep (fun j hj => ?_) (fun j hj => ?_) _ _ _ _ _ htc'.out
        · exact same_set_alloc _ _ _ _ _ _ (by have := hj.1; simp at this; omega) hj.2
        · obtain ⟨h1, h2⟩ := hj
          simp at h1
          exact ⟨by omega, by simp; omega⟩
      | cons c0 q =>
        go_wp2_with fail
        refine bodyPost_ret (v := .tuple #[.agg #[.string ⟨#[]⟩, .slice none 0 0], .bool false]) (by simp [results, Tryz.results79, go_sem, r0, r1, z0]) rfl ?_
        have hbel := hbel'.out
        exact no'.out _ (readT_rest hrd'.out (by simp)) (by repeat (with_reducible first | exact hbel | exact Below.refl _ _ | refine Below.drew ?_ | refine Below.drewN ?_ _ | refine Below.alloc ?_ (by first | (simp; done) | (simp; omega) | omega | (have := Below.size hbel; simp; omega) | (have := Below.size hbel; omega)) _ | refine Below.setCell ?_ (by first | (simp; done) | (simp; omega) | omega) _))
    · have hrd' := Lib.hid hrd
      clear hrd
      go_wp2_with fail
      refine bodyPost_ret (v := .tuple #[.agg #[.string ⟨#[]⟩, .slice none 0 0], .bool false]) (by simp [results, Tryz.results79, go_sem, r0, r1, z0]) rfl ?_
      have hbel := hbel'.out
      exact no'.out _ (readT_none hrd'.out) (by repeat (with_reducible first | exact hbel | exact Below.refl _ _ | refine Below.drew ?_ | refine Below.drewN ?_ _ | refine Below.alloc ?_ (by first | (simp; done) | (simp; omega) | omega | (have := Below.size hbel; simp; omega) | (have := Below.size hbel; omega)) _ | refine Below.setCell ?_ (by first | (simp; done) | (simp; omega) | omega) _))

set_option maxRecDepth 100000 in
theorem l1Parse_any (s : ByteArray) (w : World) :
    Calls Tryz.prog 39 #[.string s] w (TPost s.data.toList w) := by
  have no : ∀ a p l c w', readT s.data.toList = none → Below w.heap.size w w' → TPost s.data.toList w (.returned (.tuple #[.agg #[.string a, .slice p l c], .bool false])) w' := fun a p l c w' h hb => ⟨hb, .inr ⟨_, _, _, _, h, rfl⟩⟩
  have no' := Lib.hid no
  clear no
  by_cases hlen : 6000 < s.size
  · go_enter Tryz.func39, Tryz.ntmps39
    go_wp2_with fail
    refine bodyPost_ret (v := .tuple #[.agg #[.string ⟨#[]⟩, .slice none 0 0], .bool false]) (by simp [results, Tryz.results39, go_sem]) rfl ?_
    exact no'.out _ _ _ _ _ (readT_long (by rw [← ba_size]; exact hlen)) (by repeat (with_reducible first | exact hbel | exact Below.refl _ _ | refine Below.drew ?_ | refine Below.drewN ?_ _ | refine Below.alloc ?_ (by first | (simp; done) | (simp; omega) | omega | (have := Below.size hbel; simp; omega) | (have := Below.size hbel; omega)) _ | refine Below.setCell ?_ (by first | (simp; done) | (simp; omega) | omega) _))
  · go_enter Tryz.func39, Tryz.ntmps39
    go_wp2_with fail
    refine (read_any s (by omega) 200 0 rfl 0 _ (Nat.zero_le _)).mono ?_
    rintro e w1 ⟨hb1, hp⟩
    obtain ⟨z0, r0, r1, f0, f1⟩ := two_cells ((hb1.block w.heap.size (by simp)).trans (heap_alloc_new w _))
    have hbel' := Lib.hid (Below.trans (show Below w.heap.size w (w.alloc _) from (Below.refl _ _).alloc (Nat.le_refl _) _) (hb1.mono (by simp)))
    clear hb1
    rcases hp with ⟨t, q, a, p, l, c, hrd, rfl, htc⟩ | ⟨a, p, l, c, hrd, rfl⟩
    · rw [List.drop_zero] at hrd
      have hql := rd_length hrd
      rw [← ba_size] at hql
      have hrd' := Lib.hid hrd
      have htc' := Lib.hid htc
      clear hrd htc
      cases q with
      | nil =>
        rw [show s.size - ([] : Bs).length = s.size from rfl]
        go_wp2_with fail
        refine bodyPost_ret (v := .tuple #[.agg #[.string a, .slice p l c], .bool true]) (by simp [results, Tryz.results39, go_sem, r0, r1, z0]) rfl ?_
        refine ⟨by have hbel := hbel'.out; exact (by repeat (with_reducible first | exact hbel | exact Below.refl _ _ | refine Below.drew ?_ | refine Below.drewN ?_ _ | refine Below.alloc ?_ (by first | (simp; done) | (simp; omega) | omega | (have := Below.size hbel; simp; omega) | (have := Below.size hbel; omega)) _ | refine Below.setCell ?_ (by first | (simp; done) | (simp; omega) | omega) _)), .inl ⟨_, _, _, _, _, readT_some (by rw [← ba_size]; exact hlen) hrd'.out, rfl, ?_⟩⟩
        refine TC.keep (fun j hj => ?_) (fun j hj => ?_) _ _ _ _ _ htc'.out
        · exact same_set_alloc _ _ _ _ _ _ (by have := hj.1; simp at this; omega) hj.2
        · obtain ⟨h1, h2⟩ := hj
          simp at h1
          exact ⟨by omega, by simp; omega⟩
      | cons c0 q =>
        generalize he : s.size - (c0 :: q).length = e
        have heq : ((e : Int) == (s.size : Int)) = false := by
          rw [beq_eq_false_iff_ne]
          simp at he hql
          omega
        clear he hql
        go_wp2_with fail
        refine bodyPost_ret (v := .tuple #[.agg #[.string a, .slice p l c], .bool false]) (by simp [results, Tryz.results39, go_sem, r0, r1, z0]) rfl ?_
        have hbel := hbel'.out
        exact no'.out _ _ _ _ _ (readT_rest hrd'.out (by simp)) (by repeat (with_reducible first | exact hbel | exact Below.refl _ _ | refine Below.drew ?_ | refine Below.drewN ?_ _ | refine Below.alloc ?_ (by first | (simp; done) | (simp; omega) | omega | (have := Below.size hbel; simp; omega) | (have := Below.size hbel; omega)) _ | refine Below.setCell ?_ (by first | (simp; done) | (simp; omega) | omega) _))
    · have hrd' := Lib.hid hrd
      have heq : ((-1 : Int) == (s.size : Int)) = false := by rw [beq_eq_false_iff_ne]; omega
      clear hrd
      go_wp2_with fail
      refine bodyPost_ret (v := .tuple #[.agg #[.string a, .slice p l c], .bool false]) (by simp [results, Tryz.results39, go_sem, r0, r1, z0]) rfl ?_
      have hbel := hbel'.out
      exact no'.out _ _ _ _ _ (readT_none (by rw [← hrd'.out]; rfl)) (by repeat (with_reducible first | exact hbel | exact Below.refl _ _ | refine Below.drew ?_ | refine Below.drewN ?_ _ | refine Below.alloc ?_ (by first | (simp; done) | (simp; omega) | omega | (have := Below.size hbel; simp; omega) | (have := Below.size hbel; omega)) _ | refine Below.setCell ?_ (by first | (simp; done) | (simp; omega) | omega) _))

end Go.Proofs.YtaagbnbekfogiaaGreatDoor
