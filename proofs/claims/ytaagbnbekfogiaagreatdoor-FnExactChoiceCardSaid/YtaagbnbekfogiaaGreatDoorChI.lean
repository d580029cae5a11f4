/- impl.Choice. -/
import Derived.Test.YtaagbnbekfogiaaGreatDoorNewO
import Derived.Test.YtaagbnbekfogiaaGreatDoorMathX
namespace Go.Proofs.YtaagbnbekfogiaaGreatDoor
set_option linter.unusedVariables false
open Go.RowKit Go.Maps
set_option maxRecDepth 100000

set_option maxHeartbeats 2000000 in
theorem implChoice_any {N : Nat} (hN : N ≤ 1000000) (hN2 : 3000 ≤ N) (s t : ByteArray) (w : World) (hito : ITO N w.heap.size w) : Calls Tryz.prog 9 #[.string s, .string t] w (WPost (chO (readS s.data.toList) (readS t.data.toList)) w) := by
  generalize hz : readS s.data.toList = o
  generalize hu : readS t.data.toList = r
  have hz' := Lib.hid hz
  have hu' := Lib.hid hu
  have hrs := Lib.hid (fun W => readStatement_any s W)
  have hrt := Lib.hid (fun W => readStatement_any t W)
  rw [hz] at hrs
  rw [hu] at hrt
  have hito' := Lib.hid hito
  clear hz hu hito
  cases o with
  | none =>
    cases r with
    | none =>
      go_enter Tryz.func9, Tryz.ntmps9
      go_wp2_with fail
      refine Calls.mono (hrs.out _) ?_
      rintro e w1 ⟨hb1, rfl⟩
      have hb1' := Lib.hid hb1
      clear hb1
      go_wp2_with fail
      refine Calls.mono (hrt.out _) ?_
      rintro e w2 ⟨hb2, rfl⟩
      go_wp2_with fail
      go_ret2
      exact ⟨rfl, below_step hb1'.out (Nat.le_refl _) hb2⟩
    | some q =>
      go_enter Tryz.func9, Tryz.ntmps9
      go_wp2_with fail
      refine Calls.mono (hrs.out _) ?_
      rintro e w1 ⟨hb1, rfl⟩
      have hb1' := Lib.hid hb1
      clear hb1
      go_wp2_with fail
      refine Calls.mono (hrt.out _) ?_
      rintro e w2 ⟨hb2, y, rfl, hy⟩
      clear hy
      go_wp2_with fail
      go_ret2
      exact ⟨rfl, below_step hb1'.out (Nat.le_refl _) hb2⟩
  | some p =>
    cases r with
    | none =>
      go_enter Tryz.func9, Tryz.ntmps9
      go_wp2_with fail
      refine Calls.mono (hrs.out _) ?_
      rintro e w1 ⟨hb1, y, rfl, hy⟩
      have hb1' := Lib.hid hb1
      clear hb1 hy
      go_wp2_with fail
      refine Calls.mono (hrt.out _) ?_
      rintro e w2 ⟨hb2, rfl⟩
      go_wp2_with fail
      go_ret2
      exact ⟨rfl, below_step hb1'.out (Nat.le_refl _) hb2⟩
    | some q =>
      have hp := (readS_stm hz'.out).1
      have hq := (readS_stm hu'.out).1
      have sp := hp.sz
      have sq := hq.sz
      have u1 := p.uses_len
      have u2 := q.uses_len
      have np := P.nok_ok hp.ok
      have nq := P.nok_ok hq.ok
      have hcc := chC_ok hp hq
      have hw := Lib.hid (fun W D x h1 h2 => write_any (p := chC p q) hcc.1 (by omega) W D x h1 h2)
      have hnk := chP_nok (a := nw false p.uses) (x := nw true q.uses) (nw_nm _ (by omega)) (nw_nm _ (by omega)) np nq
      have hca := Lib.hid (fun W (hW : ITO N W.heap.size W) D x h1 h2 => canonical_any hN hnk (by rw [chP_size]; omega) (by rw [chP_size]; omega) W hW D x h1 h2)
      have hnC := Lib.hid (fun W (hW : ITO N W.heap.size W) D x h1 h2 => newNameOfC hN np (by omega) (by omega) W D x hW h1 h2)
      have hnV := Lib.hid (fun W (hW : ITO N W.heap.size W) D x h1 h2 => newNameOfV hN nq (by omega) (by omega) W D x hW h1 h2)
      have ea := nw_ne false p.uses
      have ex := nw_ne true q.uses
      have hdef : Hid (chO (some p) (some q) = some (chC p q)) := rfl
      rw [show cname false (nxt p.uses false 0) = nw false p.uses from rfl] at hnC
      rw [show cname true (nxt q.uses true 0) = nw true q.uses from rfl] at hnV
      rw [show (chP (nw false p.uses) (nw true q.uses) p q).canon = chC p q from rfl] at hca
      generalize nw false p.uses = a at *
      generalize nw true q.uses = z at *
      obtain ⟨a0, a1, rfl⟩ := List.exists_cons_of_ne_nil ea
      obtain ⟨z0, z1, rfl⟩ := List.exists_cons_of_ne_nil ex
      rw [show nameW (a0 :: a1) = .agg #[.int .u8 a0.toNat, .string ⟨a1.toArray⟩] from rfl] at hnC
      rw [show nameW (z0 :: z1) = .agg #[.int .u8 z0.toNat, .string ⟨z1.toArray⟩] from rfl] at hnV
      clear hcc hnk hp hq np nq ea ex hz' hu'
      go_enter Tryz.func9, Tryz.ntmps9
      go_wp2_with fail
      refine Calls.mono (hrs.out _) ?_
      rintro e w1 ⟨hb1, y, rfl, hy⟩
      have hb1' := Lib.hid hb1
      have hy' := Lib.hid hy
      clear hb1 hy
      go_wp2_with fail
      refine Calls.mono (hrt.out _) ?_
      rintro e w2 ⟨hb2, v, rfl, hv⟩
      have hb02 := Lib.hid (below_step hb1'.out (Nat.le_refl _) hb2)
      have hy2 := Lib.hid (hy'.out.below hb2 (fun g hg => hg.2))
      have hs2 := hb2.size
      have hv' := Lib.hid hv
      clear hb2 hv hy'
      go_wp2_with fail
      refine Calls.mono (hnC.out w2 (hito'.out.up hb02.out) _ y hy2.out (fun g hg => Nat.lt_of_lt_of_le hg.2 hs2)) ?_
      rintro e w3 ⟨rfl, hb3⟩
      have hb03 := Lib.hid (below_step hb02.out (Nat.le_refl _) hb3)
      have hy3 := Lib.hid (hy2.out.below hb3 (fun g hg => Nat.lt_of_lt_of_le hg.2 hs2))
      have hv3 := Lib.hid (hv'.out.below hb3 (fun g hg => hg.2))
      have hs3 := hb3.size
      clear hb3 hv' hy2
      go_wp2_with fail
      refine Calls.mono (hnV.out w3 (hito'.out.up hb03.out) _ v hv3.out (fun g hg => Nat.lt_of_lt_of_le hg.2 hs3)) ?_
      rintro e w4 ⟨rfl, hb4⟩
      have hs4 := hb4.size
      have hb04 := Lib.hid (below_step hb03.out (Nat.le_refl _) hb4)
      have hy4 := Lib.hid (hy3.out.below hb4 (fun g hg => Nat.lt_of_lt_of_le hg.2 (Nat.le_trans hs2 hs3)))
      have hv4 := Lib.hid (hv3.out.below hb4 (fun g hg => Nat.lt_of_lt_of_le hg.2 hs3))
      clear hb4 hv3 hy3
      go_wp2_with fail
      refine Calls.mono (formOf_any cutB _ _ _ _) ?_
      rintro e w5 ⟨rfl, hb5⟩
      have hblk := block_cells ((hb5.block w4.heap.size (by simp)).trans (heap_alloc_new w4 _))
      have hb45 : Below w4.heap.size w4 w5 := below_step (bb_alloc (Below.refl _ _) _) (Nat.le_refl _) hb5
      have hb05 := Lib.hid (below_step hb04.out (Nat.le_refl _) hb45)
      have hs5 := hb45.size
      have hpi : PI w5 (fun g => g < w5.heap.size) (chP (a0 :: a1) (z0 :: z1) p q) (.agg #[str cutB, .slice (some ⟨w4.heap.size, 0, none⟩) 2 2]) :=
        ⟨w4.heap.size, 2, _, _, rfl, Nat.lt_of_lt_of_le (by simp) hb5.size, hblk 0 _ rfl, ⟨a0, a1, y, rfl, rfl, (hy4.out.below hb45 (fun g hg => Nat.lt_of_lt_of_le hg.2 (Nat.le_trans hs2 (Nat.le_trans hs3 hs4)))).to (fun g hg => Nat.lt_of_lt_of_le hg.2 (Nat.le_trans hs2 (Nat.le_trans hs3 (Nat.le_trans hs4 hs5))))⟩,
          hblk 1 _ rfl, ⟨z0, z1, v, rfl, rfl, (hv4.out.below hb45 (fun g hg => Nat.lt_of_lt_of_le hg.2 (Nat.le_trans hs3 hs4))).to (fun g hg => Nat.lt_of_lt_of_le hg.2 (Nat.le_trans hs3 (Nat.le_trans hs4 hs5)))⟩⟩
      have hc5 := Lib.hid (hca.out w5 (hito'.out.up hb05.out) _ _ hpi (fun g hg => hg))
      rw [show pt (chP (a0 :: a1) (z0 :: z1) p q) = 77 from rfl] at hc5
      clear hpi hblk hb45 hb5 hy4 hv4
      go_wp2_with fail
      refine Calls.mono hc5.out ?_
      rintro e w6 ⟨u, rfl, hu6, hb6⟩
      have hw6 := Lib.hid (hw.out w6 _ u hu6 (fun g hg => hg.2))
      have hb06 := Lib.hid (below_step hb05.out (Nat.le_refl _) hb6)
      clear hu6 hb6
      go_wp2_with fail
      refine Calls.mono hw6.out ?_
      rintro e w7 ⟨rfl, hb7⟩
      have hb07 := Lib.hid (below_step hb06.out (Nat.le_refl _) hb7)
      clear hb7
      go_wp2_with fail
      go_ret2
      exact ⟨by rw [hdef.out]; rfl, hb07.out⟩

end Go.Proofs.YtaagbnbekfogiaaGreatDoor
