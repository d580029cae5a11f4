/- spec.l2Read. -/
import Derived.Test.YtagafoldkfgikaaSpecR
namespace Go.Proofs.Ytagafoldkfgikaa
set_option linter.unusedVariables false
open Go.RowKit

theorem TC.up' {w : World} {lo lo' : Nat} {t : T} {a : ByteArray} {p : Option Addr} {n c : Nat} (h : TC w (New lo' w) t a p n c) (hl : lo ≤ lo') : TC w (New lo w) t a p n c :=
  TC.keep (fun _ _ => rfl) (fun g hg => ⟨Nat.le_trans hl hg.1, hg.2⟩) _ _ _ _ _ h

set_option maxRecDepth 100000 in
theorem l2Read_any (s : ByteArray) (w : World) : Calls Try.prog 12 #[.string s] w (RdPost s.data.toList w) := by
  go_enter Try.func12, Try.ntmps12
  go_wp2_with fail
  refine Calls.mono (l1Parse_any s _) ?_
  rintro e w1 ⟨hb1, hp⟩
  have hb1' := Lib.hid (below_step (show Below w.heap.size w (w.alloc _) from (Below.refl _ _).alloc (Nat.le_refl _) _) (by simp) hb1)
  rcases hp with ⟨t, a, p, l, c, hrd, rfl, htc⟩ | ⟨a, p, l, c, hrd, rfl⟩
  · have hbx := (hb1.block w.heap.size (by simp)).trans (heap_alloc_new w _)
    obtain ⟨z0, r0, r1, -, -⟩ := two_cells hbx
    have hsz := readT_sz hrd
    have htc0 := htc.up' (lo := w.heap.size + 1) (by simp)
    have hcA := Lib.hid (fun W (hW : Below w1.heap.size w1 W) => atoms_all 9000 (by omega) t W _ a p l c (by omega) (htc0.below hW (fun g hg => hg.2)) (fun g hg => Nat.lt_of_lt_of_le hg.2 hW.size))
    have hcK := Lib.hid (fun W (hW : Below w1.heap.size w1 W) => lk_all 9000 t W _ a p l c (by omega) (htc0.below hW (fun g hg => hg.2)) (fun g hg => Nat.lt_of_lt_of_le hg.2 hW.size))
    have hat := T.atoms_sz t
    have htc' := Lib.hid htc0
    have hb1s := hb1.size
    simp at hb1s
    clear htc hb1 htc0
    by_cases h5 : 500 < t.atoms
    · have hno := Lib.hid (readP_atoms hrd h5)
      have h5' : (500 : Int) < (t.atoms : Int) := by omega
      clear hrd h5
      go_wp2_with fail
      refine Calls.mono (hcA.out _ (by repeat (with_reducible first | exact hbel | exact Below.refl _ _ | refine Below.drew ?_ | refine Below.drewN ?_ _ | refine Below.alloc ?_ (by first | (simp; done) | (simp; omega) | omega | (have := Below.size hbel; simp; omega) | (have := Below.size hbel; omega)) _ | refine Below.setCell ?_ (by first | (simp; done) | (simp; omega) | omega) _))) ?_
      rintro e w2 ⟨rfl, hb2⟩
      have hbx1 := (hb2.block w1.heap.size (by simp)).trans (heap_alloc_new w1 _)
      have hbx0 := (hb2.block w.heap.size (by simp; omega)).trans ((Below.heap_alloc _ _ _ (by omega)).trans hbx)
      obtain ⟨y0, s0, s1, -, -⟩ := two_cells hbx1
      obtain ⟨y2, t0, t1, f0, f1⟩ := two_cells hbx0
      have hb2' := Lib.hid (below_step (show Below w1.heap.size w1 (w1.alloc _) from (Below.refl _ _).alloc (Nat.le_refl _) _) (by simp) hb2)
      have hb02 := Lib.hid (below_step hb1'.out (Nat.le_refl _) hb2'.out)
      clear hb2 hbx1 hbx0
      go_wp2_with fail
      refine bodyPost_ret (v := .tuple #[.agg #[.string a, .slice p l c], .string ⟨#[]⟩, .bool false]) (by simp [results, Try.results12, go_sem, t0, t1]) rfl ?_
      refine ⟨?_, .inr ⟨_, _, _, _, hno.out, rfl⟩⟩
      have hbel := hb02.out
      exact (by repeat (with_reducible first | exact hbel | exact Below.refl _ _ | refine Below.drew ?_ | refine Below.drewN ?_ _ | refine Below.alloc ?_ (by first | (simp; done) | (simp; omega) | omega | (have := Below.size hbel; simp; omega) | (have := Below.size hbel; omega)) _ | refine Below.setCell ?_ (by first | (simp; done) | (simp; omega) | omega) _))
    · have h5' : ¬ (500 : Int) < (t.atoms : Int) := by omega
      cases hP : toP t with
      | none =>
        have hno := Lib.hid (readP_bad hrd hP)
        rw [hP, show kindO none = [] from rfl] at hcK
        clear hrd h5 hP
        go_wp2_with fail
        refine Calls.mono (hcA.out _ (by repeat (with_reducible first | exact hbel | exact Below.refl _ _ | refine Below.drew ?_ | refine Below.drewN ?_ _ | refine Below.alloc ?_ (by first | (simp; done) | (simp; omega) | omega | (have := Below.size hbel; simp; omega) | (have := Below.size hbel; omega)) _ | refine Below.setCell ?_ (by first | (simp; done) | (simp; omega) | omega) _))) ?_
        rintro e w2 ⟨rfl, hb2⟩
        have hbx1 := (hb2.block w1.heap.size (by simp)).trans (heap_alloc_new w1 _)
        have hbx0 := (hb2.block w.heap.size (by simp; omega)).trans ((Below.heap_alloc _ _ _ (by omega)).trans hbx)
        obtain ⟨y0, s0, s1, -, -⟩ := two_cells hbx1
        obtain ⟨y2, t0, t1, f0, f1⟩ := two_cells hbx0
        have hb2' := Lib.hid (below_step (show Below w1.heap.size w1 (w1.alloc _) from (Below.refl _ _).alloc (Nat.le_refl _) _) (by simp) hb2)
        have hb02 := Lib.hid (below_step hb1'.out (Nat.le_refl _) hb2'.out)
        have hbx0' := Lib.hid hbx0
        have hbx1' := Lib.hid hbx1
        clear hb2 hbx1 hbx0
        go_wp2_with fail
        refine Calls.mono (hcK.out _ hb2'.out) ?_
        rintro e w3 ⟨rfl, hb3⟩
        obtain ⟨q2, u0, u1, f2, f3⟩ := two_cells ((hb3.block w.heap.size y2).trans hbx0'.out)
        obtain ⟨q1, v0, v1, -, -⟩ := two_cells ((hb3.block w1.heap.size y0).trans hbx1'.out)
        have hb03 := Lib.hid (below_step hb02.out (Nat.le_refl _) hb3)
        clear hb3
        go_wp2_with fail
        refine bodyPost_ret (v := .tuple #[.agg #[.string a, .slice p l c], .string ⟨#[]⟩, .bool false]) (by simp [results, Try.results12, go_sem, u0, u1]) rfl ?_
        refine ⟨?_, .inr ⟨_, _, _, _, hno.out, rfl⟩⟩
        have hbel := hb03.out
        exact (by repeat (with_reducible first | exact hbel | exact Below.refl _ _ | refine Below.drew ?_ | refine Below.drewN ?_ _ | refine Below.alloc ?_ (by first | (simp; done) | (simp; omega) | omega | (have := Below.size hbel; simp; omega) | (have := Below.size hbel; omega)) _ | refine Below.setCell ?_ (by first | (simp; done) | (simp; omega) | omega) _))
      | some q =>
        have htq := (toP_tree hP).1
        have h5q : q.size ≤ 500 := by rw [htq, P.atoms_tree] at h5; omega
        have hyes := Lib.hid (readP_some hrd hP h5q)
        have htq' := Lib.hid htq
        rw [hP, show kindO (some q) = q.kind.let from rfl] at hcK
        have hke : q.kind.let.isEmpty = false := by cases q.kind <;> rfl
        clear hrd h5 hP htq
        go_wp2_with fail
        refine Calls.mono (hcA.out _ (by repeat (with_reducible first | exact hbel | exact Below.refl _ _ | refine Below.drew ?_ | refine Below.drewN ?_ _ | refine Below.alloc ?_ (by first | (simp; done) | (simp; omega) | omega | (have := Below.size hbel; simp; omega) | (have := Below.size hbel; omega)) _ | refine Below.setCell ?_ (by first | (simp; done) | (simp; omega) | omega) _))) ?_
        rintro e w2 ⟨rfl, hb2⟩
        have hbx1 := (hb2.block w1.heap.size (by simp)).trans (heap_alloc_new w1 _)
        have hbx0 := (hb2.block w.heap.size (by simp; omega)).trans ((Below.heap_alloc _ _ _ (by omega)).trans hbx)
        obtain ⟨y0, s0, s1, -, -⟩ := two_cells hbx1
        obtain ⟨y2, t0, t1, f0, f1⟩ := two_cells hbx0
        have hb2' := Lib.hid (below_step (show Below w1.heap.size w1 (w1.alloc _) from (Below.refl _ _).alloc (Nat.le_refl _) _) (by simp) hb2)
        have hb02 := Lib.hid (below_step hb1'.out (Nat.le_refl _) hb2'.out)
        have hbx0' := Lib.hid hbx0
        have hbx1' := Lib.hid hbx1
        clear hb2 hbx1 hbx0
        go_wp2_with fail
        refine Calls.mono (hcK.out _ hb2'.out) ?_
        rintro e w3 ⟨rfl, hb3⟩
        obtain ⟨q2, u0, u1, f2, f3⟩ := two_cells ((hb3.block w.heap.size y2).trans hbx0'.out)
        obtain ⟨q1, v0, v1, -, -⟩ := two_cells ((hb3.block w1.heap.size y0).trans hbx1'.out)
        have hb03 := Lib.hid (below_step hb02.out (Nat.le_refl _) hb3)
        have hb13 := Lib.hid (below_step hb2'.out (Nat.le_refl _) hb3)
        clear hb3
        go_wp2_with fail
        refine bodyPost_ret (v := .tuple #[.agg #[.string a, .slice p l c], .string ⟨q.kind.let.toArray⟩, .bool true]) (by simp [results, Try.results12, go_sem, u0, u1]) rfl ?_
        refine ⟨?_, .inl ⟨q, _, _, _, _, hyes.out, rfl, ?_⟩⟩
        · have hbel := hb03.out
          exact (by repeat (with_reducible first | exact hbel | exact Below.refl _ _ | refine Below.drew ?_ | refine Below.drewN ?_ _ | refine Below.alloc ?_ (by first | (simp; done) | (simp; omega) | omega | (have := Below.size hbel; simp; omega) | (have := Below.size hbel; omega)) _ | refine Below.setCell ?_ (by first | (simp; done) | (simp; omega) | omega) _))
        · rw [← htq'.out]
          have h13 := hb13.out
          refine TC.keep (fun g hg => ?_) (fun g hg => ?_) _ _ _ _ _ htc'.out
          · have hg1 := hg.1
            have hg2 := hg.2
            try simp at hg1 hg2
            first
              | (rw [same_set _ _ _ _ _ (by omega), h13.block g hg2])
              | exact h13.block g hg2
          · have hg1 := hg.1
            have hg2 := hg.2
            have := h13.size
            exact ⟨by omega, by simp; omega⟩
  · have hbx := (hb1.block w.heap.size (by simp)).trans (heap_alloc_new w _)
    obtain ⟨z0, r0, r1, f0, f1⟩ := two_cells hbx
    have hno := Lib.hid (readP_none hrd)
    have hb1s := hb1.size
    simp at hb1s
    clear hrd hb1 hbx
    go_wp2_with fail
    refine bodyPost_ret (v := .tuple #[.agg #[.string a, .slice p l c], .string ⟨#[]⟩, .bool false]) (by simp [results, Try.results12, go_sem, r0, r1, z0]) rfl ?_
    refine ⟨?_, .inr ⟨_, _, _, _, hno.out, rfl⟩⟩
    have hbel := hb1'.out
    exact (by repeat (with_reducible first | exact hbel | exact Below.refl _ _ | refine Below.drew ?_ | refine Below.drewN ?_ _ | refine Below.alloc ?_ (by first | (simp; done) | (simp; omega) | omega | (have := Below.size hbel; simp; omega) | (have := Below.size hbel; omega)) _ | refine Below.setCell ?_ (by first | (simp; done) | (simp; omega) | omega) _))

end Go.Proofs.Ytagafoldkfgikaa
