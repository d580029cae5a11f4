/- spec.l3Match. -/
import Derived.Test.YtdbdcfijeeelkaaMatch
namespace Go.Proofs.Ytdbdcfijeeelkaa
set_option linter.unusedVariables false
open Go.RowKit

theorem inst_nd : ∀ {f g : F} {m m' : AL}, inst f g m = some m' → (m.map Prod.fst).Nodup → (m'.map Prod.fst).Nodup
  | .lt s, g, m, m', h, hn => instL_ok h hn
  | .an a b, .an c d, m, m', h, hn => by
    rw [inst] at h
    obtain ⟨m1, h1, h2⟩ := Option.bind_eq_some_iff.1 h
    exact inst_nd h2 (inst_nd h1 hn)
  | .or a b, .or c d, m, m', h, hn => by
    rw [inst] at h
    obtain ⟨m1, h1, h2⟩ := Option.bind_eq_some_iff.1 h
    exact inst_nd h2 (inst_nd h1 hn)
  | .no a, .no c, m, m', h, hn => by
    rw [inst] at h
    exact inst_nd h hn
  | .an a b, .lt s, m, m', h, _ => by simp [inst] at h
  | .an a b, .or c d, m, m', h, _ => by simp [inst] at h
  | .an a b, .no c, m, m', h, _ => by simp [inst] at h
  | .or a b, .lt s, m, m', h, _ => by simp [inst] at h
  | .or a b, .an c d, m, m', h, _ => by simp [inst] at h
  | .or a b, .no c, m, m', h, _ => by simp [inst] at h
  | .no a, .lt s, m, m', h, _ => by simp [inst] at h
  | .no a, .an c d, m, m', h, _ => by simp [inst] at h
  | .no a, .or c d, m, m', h, _ => by simp [inst] at h
theorem instAll_nd : ∀ {fs gs : List F} {m m' : AL}, instAll fs gs m = some m' → (m.map Prod.fst).Nodup → (m'.map Prod.fst).Nodup ∧ m'.length ≤ m.length + (fs.map F.size).sum
  | f :: fs, g :: gs, m, m', h, hn => by
    rw [instAll] at h
    obtain ⟨m1, h1, h2⟩ := Option.bind_eq_some_iff.1 h
    have h3 := instAll_nd h2 (inst_nd h1 hn)
    have h4 := inst_len h1
    refine ⟨h3.1, ?_⟩
    rw [List.map_cons, List.sum_cons]
    omega
  | [], gs, m, m', h, hn => by
    have : some m = some m' := by cases gs <;> exact h
    injection this with this; subst this
    exact ⟨hn, by simp⟩
  | f :: fs, [], m, m', h, hn => by
    have : some m = some m' := h
    injection this with this; subst this
    exact ⟨hn, by simp⟩
theorem sum_take {ks : List F} {j : Nat} {q : F} (h : ks[j]? = some q) : ((ks.take j).map F.size).sum + q.size ≤ (ks.map F.size).sum := by
  have h1 : ks.take (j + 1) = ks.take j ++ [q] := by rw [List.take_add_one, h]; rfl
  have h2 : (ks.map F.size).sum = ((ks.take (j + 1)).map F.size).sum + ((ks.drop (j + 1)).map F.size).sum := by
    rw [← List.sum_append, ← List.map_append, List.take_append_drop]
  rw [h1, List.map_append, List.sum_append] at h2
  simp only [List.map_cons, List.map_nil, List.sum_cons, List.sum_nil] at h2
  omega

/-- What two calls to spec.l1Head hand back. -/
def HC (w : World) (h : Bs) (a : ByteArray) (p : Option Addr) (n c : Nat) : Prop := ∀ W, Below w.heap.size w W → Calls Try.prog 46 #[.agg #[.string a, .slice p n c]] W fun e w' => e = .returned (.string ⟨h.toArray⟩) ∧ Below W.heap.size W w'

set_option maxRecDepth 100000 in
set_option maxHeartbeats 1000000 in
theorem mt_off (h h2 : Bs) (hne : h ≠ h2) (p : Option Addr) (n c : Nat) (a2 : ByteArray) (p2 : Option Addr) (n2 c2 : Nat) (x y : Value) (w : World) (hca : HC w h ⟨#[]⟩ p n c) (hcb : HC w h2 a2 p2 n2 c2) :
    Calls Try.prog 29 #[.agg #[.string ⟨#[]⟩, .slice p n c], .agg #[.string a2, .slice p2 n2 c2], x, y] w (MPost none w) := by
  have hca' := Lib.hid hca
  have hcb' := Lib.hid hcb
  have hbne : (!h == h2) = true := by rw [Bool.not_eq_true', beq_eq_false_iff_ne]; exact hne
  have hS : Hid (∀ W', Below (w.heap.size + 2) ((w.alloc (.cells #[.string ⟨#[]⟩, .slice p n c] 57)).alloc (.cells #[.string a2, .slice p2 n2 c2] 57)) W' → W'.cell? ⟨w.heap.size, 0, none⟩ = some (.string ⟨#[]⟩) ∧ W'.cell? ⟨w.heap.size, 1, none⟩ = some (.slice p n c) ∧ W'.cell? ⟨w.heap.size + 1, 0, none⟩ = some (.string a2) ∧ W'.cell? ⟨w.heap.size + 1, 1, none⟩ = some (.slice p2 n2 c2)) := Lib.hid fun W' hW => by
    obtain ⟨z0, b0, b1, -, -⟩ := two_cells ((hW.block w.heap.size (by omega)).trans (first_alloc w _ _))
    obtain ⟨z1, r0, r1, -, -⟩ := two_cells ((hW.block (w.heap.size + 1) (by omega)).trans (second_alloc w _ _))
    exact ⟨b0, b1, r0, r1⟩
  have hbw : Hid (Below w.heap.size w ((w.alloc (.cells #[.string ⟨#[]⟩, .slice p n c] 57)).alloc (.cells #[.string a2, .slice p2 n2 c2] 57))) := Lib.hid (((Below.refl _ _).alloc (Nat.le_refl _) _).alloc (by simp) _)
  have hsz : ((w.alloc (.cells #[.string ⟨#[]⟩, .slice p n c] 57)).alloc (.cells #[.string a2, .slice p2 n2 c2] 57)).heap.size = w.heap.size + 2 := by simp
  clear hca hcb hne
  go_enter Try.func29, Try.ntmps29
  go_upto_region 8 with fail
  generalize hw0 : ((w.alloc (.cells #[.string ⟨#[]⟩, .slice p n c] 57)).alloc (.cells #[.string a2, .slice p2 n2 c2] 57)) = w0 at *
  rw [← hsz] at hS
  clear hw0 hsz
  go_region_held3 (fun W' => W'.cell? ⟨w.heap.size, 0, none⟩ = some (.string ⟨#[]⟩) ∧ W'.cell? ⟨w.heap.size, 1, none⟩ = some (.slice p n c) ∧ W'.cell? ⟨w.heap.size + 1, 0, none⟩ = some (.string a2) ∧ W'.cell? ⟨w.heap.size + 1, 1, none⟩ = some (.slice p2 n2 c2))
    (first | exact hS.out _ (by repeat (with_reducible first | exact Below.refl _ _ | exact hbb | refine Below.drew ?_ | refine Below.drewN ?_ _ | refine bb_alloc ?_ _ | refine below_step ?_ (Nat.le_refl _) hb1 | refine below_step ?_ (Nat.le_refl _) hb2 | refine below_step ?_ (Nat.le_refl _) hb3 | refine below_step ?_ (Nat.le_refl _) hb4)))
    (first
      | (go_at_call_of 46 c; refine Calls.mono (hca'.out _ (below_step hbw.out (Nat.le_refl _) (by repeat (with_reducible first | exact Below.refl _ _ | exact hbb | refine Below.drew ?_ | refine Below.drewN ?_ _ | refine bb_alloc ?_ _ | refine below_step ?_ (Nat.le_refl _) hb1 | refine below_step ?_ (Nat.le_refl _) hb2 | refine below_step ?_ (Nat.le_refl _) hb3 | refine below_step ?_ (Nat.le_refl _) hb4)))) ?_; rintro e w1 ⟨rfl, hb1⟩)
      | (go_at_call_of 46 c2; refine Calls.mono (hcb'.out _ (below_step hbw.out (Nat.le_refl _) (by repeat (with_reducible first | exact Below.refl _ _ | exact hbb | refine Below.drew ?_ | refine Below.drewN ?_ _ | refine bb_alloc ?_ _ | refine below_step ?_ (Nat.le_refl _) hb1 | refine below_step ?_ (Nat.le_refl _) hb2 | refine below_step ?_ (Nat.le_refl _) hb3 | refine below_step ?_ (Nat.le_refl _) hb4)))) ?_; rintro e w2 ⟨rfl, hb2⟩))
  all_goals
    go_wp2_with fail
    go_ret3
    exact ⟨below_step hbw.out (Nat.le_refl _) (by repeat (with_reducible first | exact Below.refl _ _ | exact hbb | refine Below.drew ?_ | refine Below.drewN ?_ _ | refine bb_alloc ?_ _ | refine below_step ?_ (Nat.le_refl _) hb1 | refine below_step ?_ (Nat.le_refl _) hb2 | refine below_step ?_ (Nat.le_refl _) hb3 | refine below_step ?_ (Nat.le_refl _) hb4)), x, y, rfl, fun _ h => by cases h⟩

set_option maxRecDepth 100000 in
set_option maxHeartbeats 2000000 in
theorem mt_node (h : Bs) (ks ls : List F) (hk : ∀ q ∈ ks, Hid (MT q)) (hl : ks.length = ls.length) (M : AL) (w : World) (D : Nat → Prop) (a : ByteArray) (p : Option Addr) (n c : Nat) (a2 : ByteArray) (p2 : Option Addr) (n2 c2 : Nat) (x y : Value)
    (hok : ∀ q ∈ ks, q.ok = true) (hol : ∀ q ∈ ls, q.ok = true ∧ q.size ≤ 1000) (hml : M.length + (ks.map F.size).sum ≤ 90000000) (hks : ks.length ≤ 1000) (hnd : (M.map Prod.fst).Nodup)
    (ht : TC w D (.node (.atom h :: ks.map F.tree)) a p n c) (ht2 : TC w D (.node (.atom h :: ls.map F.tree)) a2 p2 n2 c2) (hD : ∀ g, D g → g < w.heap.size) (hmr : MR w M x y) :
    Calls Try.prog 29 #[.agg #[.string a, .slice p n c], .agg #[.string a2, .slice p2 n2 c2], x, y] w (MPost (instAll ks ls M) w) := by
  have hca' : Hid (HC w h a p n c) := Lib.hid (fun W hW => head_lit ht hD W hW)
  have hcb' : Hid (HC w h a2 p2 n2 c2) := Lib.hid (fun W hW => head_lit ht2 hD W hW)
  obtain ⟨rfl, hn, g1, rfl, hg1, hp1⟩ := ht.part
  obtain ⟨rfl, hn2, g2, rfl, hg2, hp2⟩ := ht2.part
  have hg1w := hD g1 hg1
  have hg2w := hD g2 hg2
  have hn' : n = ks.length + 1 := by simpa using hn
  have hn2' : n2 = ks.length + 1 := by rw [hl]; simpa using hn2
  subst hn' hn2'
  have hp1' := Lib.hid hp1
  have hp2' := Lib.hid hp2
  have hk' := Lib.hid hk
  have hl' := Lib.hid hl
  have hD' := Lib.hid hD
  have hok' := Lib.hid hok
  have hol' := Lib.hid hol
  have hnd' := Lib.hid hnd
  have hml' := Lib.hid hml
  have hmr' := Lib.hid hmr
  have hbne : (!h == h) = false := by simp
  have hS : Hid (∀ W', Below (w.heap.size + 2) ((w.alloc (.cells #[.string ⟨#[]⟩, .slice (some ⟨g1, 0, none⟩) (ks.length + 1) c] 57)).alloc (.cells #[.string ⟨#[]⟩, .slice (some ⟨g2, 0, none⟩) (ks.length + 1) c2] 57)) W' → W'.cell? ⟨w.heap.size, 0, none⟩ = some (.string ⟨#[]⟩) ∧ W'.cell? ⟨w.heap.size, 1, none⟩ = some (.slice (some ⟨g1, 0, none⟩) (ks.length + 1) c) ∧ W'.cell? ⟨w.heap.size + 1, 0, none⟩ = some (.string ⟨#[]⟩) ∧ W'.cell? ⟨w.heap.size + 1, 1, none⟩ = some (.slice (some ⟨g2, 0, none⟩) (ks.length + 1) c2)) := Lib.hid fun W' hW => by
    obtain ⟨z0, b0, b1, -, -⟩ := two_cells ((hW.block w.heap.size (by omega)).trans (first_alloc w _ _))
    obtain ⟨z1, r0, r1, -, -⟩ := two_cells ((hW.block (w.heap.size + 1) (by omega)).trans (second_alloc w _ _))
    exact ⟨b0, b1, r0, r1⟩
  have hbw : Hid (Below w.heap.size w ((w.alloc (.cells #[.string ⟨#[]⟩, .slice (some ⟨g1, 0, none⟩) (ks.length + 1) c] 57)).alloc (.cells #[.string ⟨#[]⟩, .slice (some ⟨g2, 0, none⟩) (ks.length + 1) c2] 57))) := Lib.hid (((Below.refl _ _).alloc (Nat.le_refl _) _).alloc (by simp) _)
  have hsz : ((w.alloc (.cells #[.string ⟨#[]⟩, .slice (some ⟨g1, 0, none⟩) (ks.length + 1) c] 57)).alloc (.cells #[.string ⟨#[]⟩, .slice (some ⟨g2, 0, none⟩) (ks.length + 1) c2] 57)).heap.size = w.heap.size + 2 := by simp
  clear hp1 hp2 hk hl hD hok hol hnd hml hmr ht ht2 hg1 hg2 hn hn2
  go_enter Try.func29, Try.ntmps29
  go_upto_region 8 with fail
  generalize hw0 : ((w.alloc (.cells #[.string ⟨#[]⟩, .slice (some ⟨g1, 0, none⟩) (ks.length + 1) c] 57)).alloc (.cells #[.string ⟨#[]⟩, .slice (some ⟨g2, 0, none⟩) (ks.length + 1) c2] 57)) = w0 at *
  rw [← hsz] at hS
  clear hw0
  go_cut [51] from 47 to 51 (fun b wx => b = .bool false ∧ Below w0.heap.size w0 wx)
  case first =>
    go_region_held3 (fun W' => W'.cell? ⟨w.heap.size, 0, none⟩ = some (.string ⟨#[]⟩) ∧ W'.cell? ⟨w.heap.size, 1, none⟩ = some (.slice (some ⟨g1, 0, none⟩) (ks.length + 1) c) ∧ W'.cell? ⟨w.heap.size + 1, 0, none⟩ = some (.string ⟨#[]⟩) ∧ W'.cell? ⟨w.heap.size + 1, 1, none⟩ = some (.slice (some ⟨g2, 0, none⟩) (ks.length + 1) c2))
      (first | exact hS.out _ (by repeat (with_reducible first | exact Below.refl _ _ | exact hbb | refine Below.drew ?_ | refine Below.drewN ?_ _ | refine bb_alloc ?_ _ | refine below_step ?_ (Nat.le_refl _) hb1 | refine below_step ?_ (Nat.le_refl _) hb2 | refine below_step ?_ (Nat.le_refl _) hb3 | refine below_step ?_ (Nat.le_refl _) hb4)))
      (first
        | (go_at_call_of 46 c; refine Calls.mono (hca'.out _ (below_step hbw.out (Nat.le_refl _) (by repeat (with_reducible first | exact Below.refl _ _ | exact hbb | refine Below.drew ?_ | refine Below.drewN ?_ _ | refine bb_alloc ?_ _ | refine below_step ?_ (Nat.le_refl _) hb1 | refine below_step ?_ (Nat.le_refl _) hb2 | refine below_step ?_ (Nat.le_refl _) hb3 | refine below_step ?_ (Nat.le_refl _) hb4)))) ?_; rintro e w1 ⟨rfl, hb1⟩)
        | (go_at_call_of 46 c2; refine Calls.mono (hcb'.out _ (below_step hbw.out (Nat.le_refl _) (by repeat (with_reducible first | exact Below.refl _ _ | exact hbb | refine Below.drew ?_ | refine Below.drewN ?_ _ | refine bb_alloc ?_ _ | refine below_step ?_ (Nat.le_refl _) hb1 | refine below_step ?_ (Nat.le_refl _) hb2 | refine below_step ?_ (Nat.le_refl _) hb3 | refine below_step ?_ (Nat.le_refl _) hb4)))) ?_; rintro e w2 ⟨rfl, hb2⟩))
    all_goals
      go_wp2_with fail
      go_meet
      exact ⟨by simp, (by repeat (with_reducible first | exact Below.refl _ _ | exact hbb | refine Below.drew ?_ | refine Below.drewN ?_ _ | refine bb_alloc ?_ _ | refine below_step ?_ (Nat.le_refl _) hb1 | refine below_step ?_ (Nat.le_refl _) hb2 | refine below_step ?_ (Nat.le_refl _) hb3 | refine below_step ?_ (Nat.le_refl _) hb4))⟩
  case rest =>
    obtain ⟨rfl, hb1⟩ := hcut
    go_wp2_with fail
    go_loopw [2, 3, 12, 13] (fun u' v' b i wr => ∃ (j : Nat) (bb : Bool) (u v : Value), u = u' ∧ v = v' ∧ j ≤ ks.length ∧ i = .int .i64 ((j : Int) + 1) ∧ b = .bool bb ∧ bb = (instAll (ks.take j) (ls.take j) M).isSome ∧ (∀ M1, instAll (ks.take j) (ls.take j) M = some M1 → MR wr M1 u v) ∧ Below w0.heap.size w0 wr)
      (fun _ _ _ i _ => ks.length + 1 - (intOf i).toNat)
    case atStart => exact ⟨0, true, x, y, rfl, rfl, Nat.zero_le _, rfl, rfl, rfl, fun M1 h => by injection h with h; subst h; exact hmr'.out.below (below_step hbw.out (Nat.le_refl _) (by repeat (with_reducible first | exact Below.refl _ _ | exact hbb | refine Below.drew ?_ | refine Below.drewN ?_ _ | refine bb_alloc ?_ _ | refine below_step ?_ (Nat.le_refl _) hb1 | refine below_step ?_ (Nat.le_refl _) hb2 | refine below_step ?_ (Nat.le_refl _) hb3 | refine below_step ?_ (Nat.le_refl _) hb4))), (by repeat (with_reducible first | exact Below.refl _ _ | exact hbb | refine Below.drew ?_ | refine Below.drewN ?_ _ | refine bb_alloc ?_ _ | refine below_step ?_ (Nat.le_refl _) hb1 | refine below_step ?_ (Nat.le_refl _) hb2 | refine below_step ?_ (Nat.le_refl _) hb3 | refine below_step ?_ (Nat.le_refl _) hb4))⟩
    case round =>
      obtain ⟨j, bb, u, v, rfl, rfl, hj, rfl, rfl, hbb, hMR, hb3⟩ := hrel
      have hbww := Lib.hid (below_step hbw.out (Nat.le_refl _) hb3)
      have hs3 := hb3.size
      rw [hsz] at hs3
      obtain ⟨c0, c1, c2', c3⟩ := hS.out wr hb3
      have hMR' := Lib.hid hMR
      have hbb' := Lib.hid hbb
      have hb3' := Lib.hid hb3
      clear hMR hb3 hbb
      by_cases hlt : j < ks.length
      · cases bb
        · have hno := Lib.hid (instAll_stop (m := M) hl'.out (j := j) (by have := hbb'.out; cases h : instAll (ks.take j) (ls.take j) M with
            | none => rfl
            | some m => rw [h] at this; cases this))
          have hjlen : (j : Int) + 1 < (ks.length : Int) + 1 := by omega
          go_wp2_with fail
          go_ret3
          exact ⟨hbww.out, u, v, by rw [hno.out]; rfl, fun _ h => by rw [hno.out] at h; cases h⟩
        · obtain ⟨M1, hM1⟩ : ∃ M1, instAll (ks.take j) (ls.take j) M = some M1 := by
            have := hbb'.out
            cases h : instAll (ks.take j) (ls.take j) M with
            | none => rw [h] at this; cases this
            | some m => exact ⟨m, rfl⟩
          obtain ⟨q, hq⟩ : ∃ q, ks[j]? = some q := ⟨ks[j], List.getElem?_eq_getElem _⟩
          obtain ⟨r, hr⟩ : ∃ r, ls[j]? = some r := ⟨ls[j]'(by have := hl'.out; omega), List.getElem?_eq_getElem _⟩
          obtain ⟨a1, p1, n1, c4, x0, x1, t1⟩ := hp1'.out (j + 1) q.tree (by simp [hq])
          obtain ⟨a3, p3, n3, c5, y0, y1, t3⟩ := hp2'.out (j + 1) r.tree (by simp [hr])
          have hnl := instAll_nd hM1 hnd'.out
          have hsum := sum_take hq
          have hcall : Hid (∀ W, Below wr.heap.size wr W → Calls Try.prog 29 #[.agg #[.string a1, .slice p1 n1 c4], .agg #[.string a3, .slice p3 n3 c5], u, v] W (MPost (inst q r M1) W)) := Lib.hid fun W hW => by
            have hWw := below_step hbww.out (Nat.le_refl _) hW
            have hm := hml'.out
            exact (hk'.out q (List.mem_of_getElem? hq)).out r M1 W D a1 p1 n1 c4 a3 p3 n3 c5 u v (hok'.out q (List.mem_of_getElem? hq)) (hol'.out r (List.mem_of_getElem? hr)).1 (hol'.out r (List.mem_of_getElem? hr)).2 (by omega) hnl.1
              (t1.below hWw hD'.out) (t3.below hWw hD'.out) (fun g hg => Nat.lt_of_lt_of_le (hD'.out g hg) hWw.size) ((hMR'.out M1 hM1).below hW)
          have hS2 : Hid (∀ W', Below wr.heap.size wr W' → W'.cell? ⟨w.heap.size, 1, none⟩ = some (.slice (some ⟨g1, 0, none⟩) (ks.length + 1) c) ∧ W'.cell? ⟨w.heap.size + 1, 1, none⟩ = some (.slice (some ⟨g2, 0, none⟩) (ks.length + 1) c2) ∧
              W'.cell? ⟨g1, (j + 1) * 2, none⟩ = some (.string a1) ∧ W'.cell? ⟨g1, (j + 1) * 2 + 1, none⟩ = some (.slice p1 n1 c4) ∧ W'.cell? ⟨g2, (j + 1) * 2, none⟩ = some (.string a3) ∧ W'.cell? ⟨g2, (j + 1) * 2 + 1, none⟩ = some (.slice p3 n3 c5)) := Lib.hid fun W' hW => by
            have hWw := below_step hbww.out (Nat.le_refl _) hW
            exact ⟨(hW.cell (p := ⟨w.heap.size, 1, none⟩) (by show w.heap.size < _; omega)).trans c1, (hW.cell (p := ⟨w.heap.size + 1, 1, none⟩) (by show w.heap.size + 1 < _; omega)).trans c3,
              (hWw.cell (p := ⟨g1, (j + 1) * 2, none⟩) hg1w).trans x0, (hWw.cell (p := ⟨g1, (j + 1) * 2 + 1, none⟩) hg1w).trans x1, (hWw.cell (p := ⟨g2, (j + 1) * 2, none⟩) hg2w).trans y0, (hWw.cell (p := ⟨g2, (j + 1) * 2 + 1, none⟩) hg2w).trans y1⟩
          have hstep := Lib.hid (instAll_step (m := M) hl'.out hq hr)
          have hM1' := Lib.hid hM1
          have hjlen : (j : Int) + 1 < (ks.length : Int) + 1 := by omega
          have hj0 : (0 : Int) ≤ (j : Int) + 1 := by omega
          clear hq hr x0 x1 t1 y0 y1 t3 hnl hsum hM1
          go_upto_region 14 with fail
          go_region_held3 (fun W' => W'.cell? ⟨w.heap.size, 1, none⟩ = some (.slice (some ⟨g1, 0, none⟩) (ks.length + 1) c) ∧ W'.cell? ⟨w.heap.size + 1, 1, none⟩ = some (.slice (some ⟨g2, 0, none⟩) (ks.length + 1) c2) ∧
              W'.cell? ⟨g1, (j + 1) * 2, none⟩ = some (.string a1) ∧ W'.cell? ⟨g1, (j + 1) * 2 + 1, none⟩ = some (.slice p1 n1 c4) ∧ W'.cell? ⟨g2, (j + 1) * 2, none⟩ = some (.string a3) ∧ W'.cell? ⟨g2, (j + 1) * 2 + 1, none⟩ = some (.slice p3 n3 c5))
            (first | exact hS2.out _ (by repeat (with_reducible first | exact Below.refl _ _ | exact hbb | refine Below.drew ?_ | refine Below.drewN ?_ _ | refine bb_alloc ?_ _ | refine below_step ?_ (Nat.le_refl _) hb1 | refine below_step ?_ (Nat.le_refl _) hb2 | refine below_step ?_ (Nat.le_refl _) hb3 | refine below_step ?_ (Nat.le_refl _) hb4)))
            (first | (go_at_call 29; refine Calls.mono (hcall.out _ (by repeat (with_reducible first | exact Below.refl _ _ | exact hbb | refine Below.drew ?_ | refine Below.drewN ?_ _ | refine bb_alloc ?_ _ | refine below_step ?_ (Nat.le_refl _) hb1 | refine below_step ?_ (Nat.le_refl _) hb2 | refine below_step ?_ (Nat.le_refl _) hb3 | refine below_step ?_ (Nat.le_refl _) hb4))) ?_; rintro e w4 ⟨hb4, u4, v4, rfl, hm4⟩))
          all_goals
            have hm4' := Lib.hid hm4
            clear hm4
            go_wp2_with fail
            go_roundw
            case rel => exact ⟨j + 1, (inst q r M1).isSome, u4, v4, rfl, rfl, by omega, by go_num, rfl, by rw [hstep.out, hM1'.out]; rfl, fun M2 h => by rw [hstep.out, hM1'.out] at h; exact hm4'.out M2 h, below_step hb3'.out (Nat.le_refl _) ((by repeat (with_reducible first | exact Below.refl _ _ | exact hbb | refine Below.drew ?_ | refine Below.drewN ?_ _ | refine bb_alloc ?_ _ | refine below_step ?_ (Nat.le_refl _) hb1 | refine below_step ?_ (Nat.le_refl _) hb2 | refine below_step ?_ (Nat.le_refl _) hb3 | refine below_step ?_ (Nat.le_refl _) hb4)) : Below wr.heap.size wr _)⟩
            case measure => simp [intOf]; omega
      · have e : j = ks.length := by omega
        subst e
        have e1 : ks.take ks.length = ks := List.take_of_length_le (Nat.le_refl _)
        have e2 : ls.take ks.length = ls := List.take_of_length_le (by have := hl'.out; omega)
        have hfin := Lib.hid (show MPost (instAll ks ls M) w (.returned (.tuple #[u, v, .bool bb])) wr from ⟨hbww.out, u, v, by rw [hbb'.out, e1, e2], fun M1 h => hMR'.out M1 (by rw [e1, e2]; exact h)⟩)
        clear e1 e2
        go_wp2_with fail
        go_ret3
        exact hfin.out

theorem hc_letter {w : World} {D : Nat → Prop} {s : Bs} {a : ByteArray} {p : Option Addr} {n c : Nat} (ht : TC w D (F.lt s).tree a p n c) : HC w [] a p n c := by
  rw [F.tree, TC] at ht
  obtain ⟨hne, rfl, rfl, rfl, rfl⟩ := ht
  exact fun W _ => head_atom s hne W
theorem hc_node {w : World} {D : Nat → Prop} {h : Bs} {ts : List T} {a : ByteArray} {p : Option Addr} {n c : Nat} (ht : TC w D (.node (.atom h :: ts)) a p n c) (hD : ∀ g, D g → g < w.heap.size) : HC w h a p n c := fun W hW => head_lit ht hD W hW
/-- The first atom of a formula's tree. -/
def fh : F → Bs
  | .lt _ => []
  | .an _ _ => [42]
  | .or _ _ => [43]
  | .no _ => [45]
theorem hc_any {w : World} {D : Nat → Prop} {f : F} {a : ByteArray} {p : Option Addr} {n c : Nat} (ht : TC w D f.tree a p n c) (hD : ∀ g, D g → g < w.heap.size) : HC w (fh f) a p n c := by
  cases f with
  | lt s => exact hc_letter ht
  | an a b => rw [F.tree] at ht; exact hc_node ht hD
  | or a b => rw [F.tree] at ht; exact hc_node ht hD
  | no a => rw [F.tree] at ht; exact hc_node ht hD
theorem mt_diff {w : World} {D : Nat → Prop} {f g : F} {M : AL} {a : ByteArray} {p : Option Addr} {n c : Nat} {a2 : ByteArray} {p2 : Option Addr} {n2 c2 : Nat} {x y : Value} (hf : fh f ≠ []) (hne : fh f ≠ fh g) (hi : inst f g M = none)
    (ht : TC w D f.tree a p n c) (ht2 : TC w D g.tree a2 p2 n2 c2) (hD : ∀ g, D g → g < w.heap.size) : Calls Try.prog 29 #[.agg #[.string a, .slice p n c], .agg #[.string a2, .slice p2 n2 c2], x, y] w (MPost (inst f g M) w) := by
  have h1 := hc_any ht hD
  have h2 := hc_any ht2 hD
  rw [hi]
  have ha : a = ⟨#[]⟩ := by
    cases f with
    | lt s => exact absurd rfl hf
    | an a b => rw [F.tree] at ht; exact ht.part.1
    | or a b => rw [F.tree] at ht; exact ht.part.1
    | no a => rw [F.tree] at ht; exact ht.part.1
  subst ha
  exact mt_off (fh f) (fh g) hne p n c a2 p2 n2 c2 x y w h1 h2
theorem F.size_pos (f : F) : 1 ≤ f.size := by cases f <;> rw [F.size] <;> omega
theorem mt_any : ∀ f : F, MT f
  | .lt s => mt_lt s
  | .an a0 b0 => by
    have Ha := Lib.hid (mt_any a0)
    have Hb := Lib.hid (mt_any b0)
    intro g M w D a p n c a2 p2 n2 c2 x y hf hg hg6 hml hnd ht ht2 hD hmr
    cases g with
    | an c0 d0 =>
      rw [F.ok, Bool.and_eq_true] at hf hg
      rw [F.size] at hml hg6
      rw [F.tree] at ht ht2
      have h := mt_node [42] [a0, b0] [c0, d0] (by intro q hq; simp at hq; rcases hq with rfl | rfl; exact Ha; exact Hb) rfl M w D a p n c a2 p2 n2 c2 x y (by intro q hq; simp at hq; rcases hq with rfl | rfl; exact hf.1; exact hf.2)
        (by intro q hq; simp at hq; rcases hq with rfl | rfl; exact ⟨hg.1, by omega⟩; exact ⟨hg.2, by omega⟩) (by simp; omega) (by simp) hnd ht ht2 hD hmr
      rw [show instAll [a0, b0] [c0, d0] M = inst (.an a0 b0) (.an c0 d0) M from by
        rw [inst]; simp only [instAll]; cases inst a0 c0 M with
        | none => rfl
        | some m => simp only [Option.bind_some]; cases inst b0 d0 m <;> rfl] at h
      exact h
    | lt s => exact mt_diff (by simp [fh]) (by simp [fh]) (by simp [inst]) ht ht2 hD
    | or e f => exact mt_diff (by simp [fh]) (by simp [fh]) (by simp [inst]) ht ht2 hD
    | no e => exact mt_diff (by simp [fh]) (by simp [fh]) (by simp [inst]) ht ht2 hD
  | .or a0 b0 => by
    have Ha := Lib.hid (mt_any a0)
    have Hb := Lib.hid (mt_any b0)
    intro g M w D a p n c a2 p2 n2 c2 x y hf hg hg6 hml hnd ht ht2 hD hmr
    cases g with
    | or c0 d0 =>
      rw [F.ok, Bool.and_eq_true] at hf hg
      rw [F.size] at hml hg6
      rw [F.tree] at ht ht2
      have h := mt_node [43] [a0, b0] [c0, d0] (by intro q hq; simp at hq; rcases hq with rfl | rfl; exact Ha; exact Hb) rfl M w D a p n c a2 p2 n2 c2 x y (by intro q hq; simp at hq; rcases hq with rfl | rfl; exact hf.1; exact hf.2)
        (by intro q hq; simp at hq; rcases hq with rfl | rfl; exact ⟨hg.1, by omega⟩; exact ⟨hg.2, by omega⟩) (by simp; omega) (by simp) hnd ht ht2 hD hmr
      rw [show instAll [a0, b0] [c0, d0] M = inst (.or a0 b0) (.or c0 d0) M from by
        rw [inst]; simp only [instAll]; cases inst a0 c0 M with
        | none => rfl
        | some m => simp only [Option.bind_some]; cases inst b0 d0 m <;> rfl] at h
      exact h
    | lt s => exact mt_diff (by simp [fh]) (by simp [fh]) (by simp [inst]) ht ht2 hD
    | an e f => exact mt_diff (by simp [fh]) (by simp [fh]) (by simp [inst]) ht ht2 hD
    | no e => exact mt_diff (by simp [fh]) (by simp [fh]) (by simp [inst]) ht ht2 hD
  | .no a0 => by
    have Ha := Lib.hid (mt_any a0)
    intro g M w D a p n c a2 p2 n2 c2 x y hf hg hg6 hml hnd ht ht2 hD hmr
    cases g with
    | no c0 =>
      rw [F.ok] at hf hg
      rw [F.size] at hml hg6
      rw [F.tree] at ht ht2
      have h := mt_node [45] [a0] [c0] (by intro q hq; simp at hq; rcases hq with rfl; exact Ha) rfl M w D a p n c a2 p2 n2 c2 x y (by intro q hq; simp at hq; rcases hq with rfl; exact hf)
        (by intro q hq; simp at hq; rcases hq with rfl; exact ⟨hg, by omega⟩) (by simp; omega) (by simp) hnd ht ht2 hD hmr
      rw [show instAll [a0] [c0] M = inst (.no a0) (.no c0) M from by
        rw [inst]; simp only [instAll]; cases inst a0 c0 M <;> rfl] at h
      exact h
    | lt s => exact mt_diff (by simp [fh]) (by simp [fh]) (by simp [inst]) ht ht2 hD
    | an e f => exact mt_diff (by simp [fh]) (by simp [fh]) (by simp [inst]) ht ht2 hD
    | or e f => exact mt_diff (by simp [fh]) (by simp [fh]) (by simp [inst]) ht ht2 hD

end Go.Proofs.Ytdbdcfijeeelkaa
