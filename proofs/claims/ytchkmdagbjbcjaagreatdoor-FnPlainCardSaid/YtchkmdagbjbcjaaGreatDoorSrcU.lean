/- impl.sourceUses. -/
import Derived.Test.YtchkmdagbjbcjaaGreatDoorSrcT
import Derived.Test.YtchkmdagbjbcjaaGreatDoorOnce
namespace Go.Proofs.YtchkmdagbjbcjaaGreatDoor
set_option linter.unusedVariables false
open Go.RowKit
set_option maxRecDepth 100000

def Src.uses : Src → List Bs
  | .v s => [s]
  | .nb h s m => if h = throwB then s :: m.uses else minus m.uses s
  | .n1 _ m => m.uses
  | .n2 _ m n => m.uses ++ n.uses

theorem UPost.upS {l : List Bs} {w W w' : World} {e : Ending} (h : UPost l W e w') (hW : Below w.heap.size w W) : UPost l w e w' := by
  obtain ⟨A, c, he, own, hb⟩ := h
  exact ⟨A, c, he, World.ownsRow.mono own hW.size, below_step hW (Nat.le_refl _) hb⟩

def USS (m : Src) : Prop := ∀ w : World, Calls Tryz.prog 19 #[.iface (sty m) (sv m)] w (UPost m.uses w)

theorem uss_v (c : UInt8) (d : Bs) : USS (.v (c :: d)) := by
  intro w
  rw [show sty (.v (c :: d)) = 81 from rfl, show sv (.v (c :: d)) = .agg #[.int .u8 c.toNat, str d] from rfl, show (Src.v (c :: d)).uses = [c :: d] from rfl]
  have mi := in_mention (.agg #[.int .u8 c.toNat, str d])
  have h1 := sa_mention_mention
  go_enter Tryz.func19, Tryz.ntmps19
  go_wp2_with fail
  refine Calls.mono (inner_none _ _ _) ?_
  rintro e w1 ⟨rfl, hb1⟩
  go_wp2_with fail
  refine wp_loop_rounds 1 ?_
  rw [rounds_succ]
  go_wp2_with fail
  go_ret
  exact ⟨_, _, rfl, own_block _ (by have := hb1.size; omega) (second_alloc _ _ _), bb_alloc2 hb1 _ _ (Nat.le_refl _)⟩

set_option maxHeartbeats 1000000 in
theorem uss_leftPart (t : TypeId) (x : Value) (l : List Bs) (hl : l.length ≤ 90000) (hc : Hid (∀ w, Calls Tryz.prog 19 #[.iface t x] w (UPost l w))) (w : World) :
    Calls Tryz.prog 19 #[.iface 125 (.agg #[.iface t x])] w (UPost l w) := by
  have mi := in_leftPart (.iface t x)
  have h1 := sa_leftPart_mention
  have h2 := sa_leftPart_lambda
  have h3 := sa_leftPart_catch
  have h4 := sa_leftPart_throw
  have hin := Lib.hid (fun w => inner_one t x w)
  obtain ⟨i0, hi0, hz0, hz1, hz2⟩ := info_parts infoName
  go_enter Tryz.func19, Tryz.ntmps19
  go_wp2_with fail
  refine Calls.mono (hin.out _) ?_
  rintro e w1 ⟨g, rfl, hb1, hg, c0⟩
  go_wp2_with fail
  refine wp_loop_rounds 2 ?_
  rw [rounds_succ]
  go_wp2_with fail
  refine Calls.mono (hc.out _) ?_
  rintro e w2 ⟨A2, c2, rfl, own2, hb2⟩
  have hb02 := Lib.hid (below_step hb1 (Nat.le_refl _) hb2)
  have own2' := Lib.hid own2
  have hs1 := hb1.size
  have hs2 := hb2.size
  clear own2 hb1 hb2
  go_wp2_with (first
    | (at_builtin; go_loud (refine wpList_append_row rfl (.tmp 17) (.tmp 19) 40 rfl w.heap.size 76 i0 _ 2 24 Tryz.underlying40 hi0 hz0 hz1 hz2 rfl (by decide) _ _ _ rfl (World.ownsRow_nil _ _ _ _) w1.heap.size _ _ _ rfl own2'.out ?c1 ?c2 ?c3 ?c4 ?_))
    | fail)
  case c1 => exact NVs_one _
  case c2 => unfold maxLen; omega
  case c3 => omega
  case c4 => omega
  intro A3 c3 w3 own3 hgrow
  have hfin := Lib.hid own3
  have hb3 := Lib.hid (hb02.out.grown hgrow (by omega) (fun k hk => by cases hk))
  clear own3 hgrow
  go_wp2_with fail
  rw [rounds_succ]
  go_wp2_with fail
  go_ret
  exact ⟨A3, c3, rfl, hfin.out, hb3.out⟩

set_option maxHeartbeats 1000000 in
theorem uss_rightPart (t : TypeId) (x : Value) (l : List Bs) (hl : l.length ≤ 90000) (hc : Hid (∀ w, Calls Tryz.prog 19 #[.iface t x] w (UPost l w))) (w : World) :
    Calls Tryz.prog 19 #[.iface 126 (.agg #[.iface t x])] w (UPost l w) := by
  have mi := in_rightPart (.iface t x)
  have h1 := sa_rightPart_mention
  have h2 := sa_rightPart_lambda
  have h3 := sa_rightPart_catch
  have h4 := sa_rightPart_throw
  have hin := Lib.hid (fun w => inner_one t x w)
  obtain ⟨i0, hi0, hz0, hz1, hz2⟩ := info_parts infoName
  go_enter Tryz.func19, Tryz.ntmps19
  go_wp2_with fail
  refine Calls.mono (hin.out _) ?_
  rintro e w1 ⟨g, rfl, hb1, hg, c0⟩
  go_wp2_with fail
  refine wp_loop_rounds 2 ?_
  rw [rounds_succ]
  go_wp2_with fail
  refine Calls.mono (hc.out _) ?_
  rintro e w2 ⟨A2, c2, rfl, own2, hb2⟩
  have hb02 := Lib.hid (below_step hb1 (Nat.le_refl _) hb2)
  have own2' := Lib.hid own2
  have hs1 := hb1.size
  have hs2 := hb2.size
  clear own2 hb1 hb2
  go_wp2_with (first
    | (at_builtin; go_loud (refine wpList_append_row rfl (.tmp 17) (.tmp 19) 40 rfl w.heap.size 76 i0 _ 2 24 Tryz.underlying40 hi0 hz0 hz1 hz2 rfl (by decide) _ _ _ rfl (World.ownsRow_nil _ _ _ _) w1.heap.size _ _ _ rfl own2'.out ?c1 ?c2 ?c3 ?c4 ?_))
    | fail)
  case c1 => exact NVs_one _
  case c2 => unfold maxLen; omega
  case c3 => omega
  case c4 => omega
  intro A3 c3 w3 own3 hgrow
  have hfin := Lib.hid own3
  have hb3 := Lib.hid (hb02.out.grown hgrow (by omega) (fun k hk => by cases hk))
  clear own3 hgrow
  go_wp2_with fail
  rw [rounds_succ]
  go_wp2_with fail
  go_ret
  exact ⟨A3, c3, rfl, hfin.out, hb3.out⟩

set_option maxHeartbeats 1000000 in
theorem uss_lambda (c : UInt8) (d : Bs) (t : TypeId) (x : Value) (l : List Bs) (hne : ∀ x ∈ l, x ≠ []) (hl : l.length ≤ 90000) (hc : Hid (∀ w, Calls Tryz.prog 19 #[.iface t x] w (UPost l w))) (w : World) :
    Calls Tryz.prog 19 #[.iface 85 (.agg #[.int .u8 c.toNat, str d, .iface t x])] w (UPost (minus l (c :: d)) w) := by
  have mi := in_lambda (.int .u8 c.toNat) (str d) (.iface t x)
  have h1 := sa_lambda_mention
  have h2 := sa_lambda_lambda
  have h3 := sa_lambda_catch
  have h4 := sa_lambda_throw
  have hin := Lib.hid (fun w => inner_one t x w)
  have hne' := Lib.hid hne
  clear hne
  obtain ⟨i0, hi0, hz0, hz1, hz2⟩ := info_parts infoName
  go_enter Tryz.func19, Tryz.ntmps19
  go_wp2_with fail
  refine Calls.mono (hin.out _) ?_
  rintro e w1 ⟨g, rfl, hb1, hg, c0⟩
  go_wp2_with fail
  refine wp_loop_rounds 2 ?_
  rw [rounds_succ]
  go_wp2_with fail
  refine Calls.mono (hc.out _) ?_
  rintro e w2 ⟨A2, c2, rfl, own2, hb2⟩
  have hb02 := Lib.hid (below_step hb1 (Nat.le_refl _) hb2)
  have own2' := Lib.hid own2
  have hs1 := hb1.size
  have hs2 := hb2.size
  clear own2 hb1 hb2
  go_wp2_with (first
    | (at_builtin; go_loud (refine wpList_append_row rfl (.tmp 17) (.tmp 19) 40 rfl w.heap.size 76 i0 _ 2 24 Tryz.underlying40 hi0 hz0 hz1 hz2 rfl (by decide) _ _ _ rfl (World.ownsRow_nil _ _ _ _) w1.heap.size _ _ _ rfl own2'.out ?c1 ?c2 ?c3 ?c4 ?_))
    | fail)
  case c1 => exact NVs_one _
  case c2 => unfold maxLen; omega
  case c3 => omega
  case c4 => omega
  intro A3 c3 w3 own3 hgrow
  have hfin := Lib.hid own3
  have hb3 := Lib.hid (hb02.out.grown hgrow (by omega) (fun k hk => by cases hk))
  clear own3 hgrow
  go_wp2_with fail
  rw [rounds_succ]
  go_wp2_with fail
  refine Calls.mono (without_any A3 _ c3 l (c :: d) (by simp) hne'.out (by omega) _ (RowN.of_own (hfin.out.alloc _))) ?_
  rintro e w4 ⟨A4, c4, rfl, own4, hb4⟩
  go_wp2_with fail
  go_ret
  have hs3 := hb3.out.size
  exact ⟨A4, c4, rfl, World.ownsRow.mono own4 (by simp; omega), below_step (hb3.out.alloc hs3 _) (by simp) hb4⟩

set_option maxHeartbeats 1000000 in
theorem uss_catch (c : UInt8) (d : Bs) (t : TypeId) (x : Value) (l : List Bs) (hne : ∀ x ∈ l, x ≠ []) (hl : l.length ≤ 90000) (hc : Hid (∀ w, Calls Tryz.prog 19 #[.iface t x] w (UPost l w))) (w : World) :
    Calls Tryz.prog 19 #[.iface 87 (.agg #[.int .u8 c.toNat, str d, .iface t x])] w (UPost (minus l (c :: d)) w) := by
  have mi := in_catch (.int .u8 c.toNat) (str d) (.iface t x)
  have h1 := sa_catch_mention
  have h2 := sa_catch_lambda
  have h3 := sa_catch_catch
  have h4 := sa_catch_throw
  have hin := Lib.hid (fun w => inner_one t x w)
  have hne' := Lib.hid hne
  clear hne
  obtain ⟨i0, hi0, hz0, hz1, hz2⟩ := info_parts infoName
  go_enter Tryz.func19, Tryz.ntmps19
  go_wp2_with fail
  refine Calls.mono (hin.out _) ?_
  rintro e w1 ⟨g, rfl, hb1, hg, c0⟩
  go_wp2_with fail
  refine wp_loop_rounds 2 ?_
  rw [rounds_succ]
  go_wp2_with fail
  refine Calls.mono (hc.out _) ?_
  rintro e w2 ⟨A2, c2, rfl, own2, hb2⟩
  have hb02 := Lib.hid (below_step hb1 (Nat.le_refl _) hb2)
  have own2' := Lib.hid own2
  have hs1 := hb1.size
  have hs2 := hb2.size
  clear own2 hb1 hb2
  go_wp2_with (first
    | (at_builtin; go_loud (refine wpList_append_row rfl (.tmp 17) (.tmp 19) 40 rfl w.heap.size 76 i0 _ 2 24 Tryz.underlying40 hi0 hz0 hz1 hz2 rfl (by decide) _ _ _ rfl (World.ownsRow_nil _ _ _ _) w1.heap.size _ _ _ rfl own2'.out ?c1 ?c2 ?c3 ?c4 ?_))
    | fail)
  case c1 => exact NVs_one _
  case c2 => unfold maxLen; omega
  case c3 => omega
  case c4 => omega
  intro A3 c3 w3 own3 hgrow
  have hfin := Lib.hid own3
  have hb3 := Lib.hid (hb02.out.grown hgrow (by omega) (fun k hk => by cases hk))
  clear own3 hgrow
  go_wp2_with fail
  rw [rounds_succ]
  go_wp2_with fail
  refine Calls.mono (without_any A3 _ c3 l (c :: d) (by simp) hne'.out (by omega) _ (RowN.of_own (hfin.out.alloc _))) ?_
  rintro e w4 ⟨A4, c4, rfl, own4, hb4⟩
  go_wp2_with fail
  go_ret
  have hs3 := hb3.out.size
  exact ⟨A4, c4, rfl, World.ownsRow.mono own4 (by simp; omega), below_step (hb3.out.alloc hs3 _) (by simp) hb4⟩

set_option maxHeartbeats 1000000 in
theorem uss_throw (c : UInt8) (d : Bs) (t : TypeId) (x : Value) (l : List Bs) (hl : l.length ≤ 90000) (hc : Hid (∀ w, Calls Tryz.prog 19 #[.iface t x] w (UPost l w))) (w : World) :
    Calls Tryz.prog 19 #[.iface 89 (.agg #[.int .u8 c.toNat, str d, .iface t x])] w (UPost ((c :: d) :: l) w) := by
  have mi := in_throw (.int .u8 c.toNat) (str d) (.iface t x)
  have h1 := sa_throw_mention
  have h2 := sa_throw_lambda
  have h3 := sa_throw_catch
  have h4 := sa_throw_throw
  have hin := Lib.hid (fun w => inner_one t x w)
  obtain ⟨i0, hi0, hz0, hz1, hz2⟩ := info_parts infoName
  go_enter Tryz.func19, Tryz.ntmps19
  go_wp2_with fail
  refine Calls.mono (hin.out _) ?_
  rintro e w1 ⟨g, rfl, hb1, hg, c0⟩
  go_wp2_with fail
  refine wp_loop_rounds 2 ?_
  rw [rounds_succ]
  go_wp2_with fail
  refine Calls.mono (hc.out _) ?_
  rintro e w2 ⟨A2, c2, rfl, own2, hb2⟩
  have hb02 := Lib.hid (below_step hb1 (Nat.le_refl _) hb2)
  have own2' := Lib.hid own2
  have hs1 := hb1.size
  have hs2 := hb2.size
  clear own2 hb1 hb2
  go_wp2_with (first
    | (at_builtin; go_loud (refine wpList_append_row rfl (.tmp 17) (.tmp 19) 40 rfl w.heap.size 76 i0 _ 2 24 Tryz.underlying40 hi0 hz0 hz1 hz2 rfl (by decide) _ _ _ rfl (World.ownsRow_nil _ _ _ _) w1.heap.size _ _ _ rfl own2'.out ?c1 ?c2 ?c3 ?c4 ?_))
    | fail)
  case c1 => exact NVs_one _
  case c2 => unfold maxLen; omega
  case c3 => omega
  case c4 => omega
  intro A3 c3 w3 own3 hgrow
  have hfin := Lib.hid own3
  have hb3 := Lib.hid (hb02.out.grown hgrow (by omega) (fun k hk => by cases hk))
  clear own3 hgrow
  have hs3 := hb3.out.size
  go_wp2_with fail
  rw [rounds_succ]
  go_wp2_with (first
    | (at_builtin; go_loud (refine wpList_append_row rfl (.tmp 48) (.tmp 49) 40 rfl w.heap.size 76 i0 _ 2 24 Tryz.underlying40 hi0 hz0 hz1 hz2 rfl (by decide) _ 1 [.int .u8 c.toNat, str d] rfl (own_block _ ?d0 (second_alloc _ _ _)) w.heap.size _ _ _ rfl ((hfin.out.alloc _).alloc _) ?d1 ?d2 ?d3 ?d4 ?_))
    | fail)
  case d0 => omega
  case d1 => exact NVs_one _
  case d2 => unfold maxLen; omega
  case d3 => omega
  case d4 => simp; omega
  intro A4 c4 w4 own4 hgrow4
  have hfin4 := Lib.hid (show w4.ownsRow w.heap.size 76 2 (.slice A4 ((c :: d) :: l).length c4) ((c :: d) :: l).length (NVs ((c :: d) :: l)) from by
    rw [List.length_cons, Nat.add_comm]; exact own4)
  have hb4 := Lib.hid ((bb_alloc2 hb3.out _ _ (Nat.le_refl _)).grown hgrow4 (by simp; omega) (fun k hk => by have h : w3.heap.size + 1 = k := (by simpa [Value.ownBlock] using hk); omega))
  have hlen4 : 1 + l.length = ((c :: d) :: l).length := by simp; omega
  clear own4 hgrow4
  go_wp2_with fail
  go_ret
  exact ⟨A4, c4, by rw [← hlen4]; rfl, hfin4.out, hb4.out⟩

set_option maxHeartbeats 1000000 in
theorem uss_application (t u : TypeId) (x y : Value) (l k : List Bs) (hl : l.length + k.length ≤ 90000) (hc : Hid (∀ w, Calls Tryz.prog 19 #[.iface t x] w (UPost l w))) (hd : Hid (∀ w, Calls Tryz.prog 19 #[.iface u y] w (UPost k w))) (w : World) :
    Calls Tryz.prog 19 #[.iface 131 (.agg #[.iface t x, .iface u y])] w (UPost (l ++ k) w) := by
  have mi := in_application (.iface t x) (.iface u y)
  have h1 := sa_application_mention
  have h2 := sa_application_lambda
  have h3 := sa_application_catch
  have h4 := sa_application_throw
  have hin := Lib.hid (fun w => inner_two t u x y w)
  obtain ⟨i0, hi0, hz0, hz1, hz2⟩ := info_parts infoName
  go_enter Tryz.func19, Tryz.ntmps19
  go_wp2_with fail
  refine Calls.mono (hin.out _) ?_
  rintro e w1 ⟨g, rfl, hb1, hg, c0, c1⟩
  go_wp2_with fail
  refine wp_loop_rounds 3 ?_
  rw [rounds_succ]
  go_wp2_with fail
  refine Calls.mono (hc.out _) ?_
  rintro e w2 ⟨A2, c2, rfl, own2, hb2⟩
  have hb02 := Lib.hid (below_step hb1 (Nat.le_refl _) hb2)
  have own2' := Lib.hid own2
  have hs1 := hb1.size
  have hs2 := hb2.size
  have c1' := Lib.hid ((hb2.cell (p := ⟨g, 1, none⟩) hg).trans c1)
  clear own2 hb1 hb2
  go_wp2_with (first
    | (at_builtin; go_loud (refine wpList_append_row rfl (.tmp 17) (.tmp 19) 40 rfl w.heap.size 76 i0 _ 2 24 Tryz.underlying40 hi0 hz0 hz1 hz2 rfl (by decide) _ _ _ rfl (World.ownsRow_nil _ _ _ _) w1.heap.size _ _ _ rfl own2'.out ?c1 ?c2 ?c3 ?c4 ?_))
    | fail)
  case c1 => exact NVs_one _
  case c2 => unfold maxLen; omega
  case c3 => omega
  case c4 => omega
  intro A3 c3 w3 own3 hgrow
  have hfin := Lib.hid own3
  have hb23 := Lib.hid ((Below.refl w2.heap.size w2).grown hgrow (by omega) (fun k hk => by cases hk))
  have hb3 := Lib.hid (hb02.out.grown hgrow (by omega) (fun k hk => by cases hk))
  have c1'' := (hb23.out.cell (p := ⟨g, 1, none⟩) (show g < w2.heap.size by omega)).trans c1'.out
  have hs3 := hb23.out.size
  clear own3 hgrow
  go_wp2_with fail
  rw [rounds_succ]
  go_wp2_with fail
  refine Calls.mono (hd.out _) ?_
  rintro e w4 ⟨A4, c4, rfl, own4, hb4⟩
  have own3' := Lib.hid (own_below hfin.out hb4)
  have own4' := Lib.hid own4
  have hb04 := Lib.hid (below_step hb3.out (Nat.le_refl _) hb4)
  have hs4 := hb4.size
  clear own4 hb4
  go_wp2_with (first
    | (at_builtin; go_loud (refine wpList_append_row rfl (.tmp 17) (.tmp 19) 40 rfl w.heap.size 76 i0 _ 2 24 Tryz.underlying40 hi0 hz0 hz1 hz2 rfl (by decide) _ _ _ rfl own3'.out w3.heap.size _ _ _ rfl own4'.out ?d1 ?d2 ?d3 ?d4 ?_))
    | fail)
  case d1 => exact NVs_one _
  case d2 => unfold maxLen; omega
  case d3 => omega
  case d4 => omega
  intro A5 c5 w5 own5 hgrow5
  have hfin5 := Lib.hid (show w5.ownsRow w.heap.size 76 2 (.slice A5 (l ++ k).length c5) (l ++ k).length (NVs (l ++ k)) from by
    rw [NVs_append, List.length_append]; exact own5)
  have hb5 := Lib.hid (hb04.out.grown hgrow5 (by omega) (fun j hj => (own3'.out.lt j hj).1))
  have hlen5 : l.length + k.length = (l ++ k).length := by simp
  clear own5 hgrow5
  go_wp2_with fail
  rw [rounds_succ]
  go_wp2_with fail
  go_ret
  exact ⟨A5, c5, by rw [← hlen5]; rfl, hfin5.out, hb5.out⟩

set_option maxHeartbeats 1000000 in
theorem uss_both (t u : TypeId) (x y : Value) (l k : List Bs) (hl : l.length + k.length ≤ 90000) (hc : Hid (∀ w, Calls Tryz.prog 19 #[.iface t x] w (UPost l w))) (hd : Hid (∀ w, Calls Tryz.prog 19 #[.iface u y] w (UPost k w))) (w : World) :
    Calls Tryz.prog 19 #[.iface 132 (.agg #[.iface t x, .iface u y])] w (UPost (l ++ k) w) := by
  have mi := in_both (.iface t x) (.iface u y)
  have h1 := sa_both_mention
  have h2 := sa_both_lambda
  have h3 := sa_both_catch
  have h4 := sa_both_throw
  have hin := Lib.hid (fun w => inner_two t u x y w)
  obtain ⟨i0, hi0, hz0, hz1, hz2⟩ := info_parts infoName
  go_enter Tryz.func19, Tryz.ntmps19
  go_wp2_with fail
  refine Calls.mono (hin.out _) ?_
  rintro e w1 ⟨g, rfl, hb1, hg, c0, c1⟩
  go_wp2_with fail
  refine wp_loop_rounds 3 ?_
  rw [rounds_succ]
  go_wp2_with fail
  refine Calls.mono (hc.out _) ?_
  rintro e w2 ⟨A2, c2, rfl, own2, hb2⟩
  have hb02 := Lib.hid (below_step hb1 (Nat.le_refl _) hb2)
  have own2' := Lib.hid own2
  have hs1 := hb1.size
  have hs2 := hb2.size
  have c1' := Lib.hid ((hb2.cell (p := ⟨g, 1, none⟩) hg).trans c1)
  clear own2 hb1 hb2
  go_wp2_with (first
    | (at_builtin; go_loud (refine wpList_append_row rfl (.tmp 17) (.tmp 19) 40 rfl w.heap.size 76 i0 _ 2 24 Tryz.underlying40 hi0 hz0 hz1 hz2 rfl (by decide) _ _ _ rfl (World.ownsRow_nil _ _ _ _) w1.heap.size _ _ _ rfl own2'.out ?c1 ?c2 ?c3 ?c4 ?_))
    | fail)
  case c1 => exact NVs_one _
  case c2 => unfold maxLen; omega
  case c3 => omega
  case c4 => omega
  intro A3 c3 w3 own3 hgrow
  have hfin := Lib.hid own3
  have hb23 := Lib.hid ((Below.refl w2.heap.size w2).grown hgrow (by omega) (fun k hk => by cases hk))
  have hb3 := Lib.hid (hb02.out.grown hgrow (by omega) (fun k hk => by cases hk))
  have c1'' := (hb23.out.cell (p := ⟨g, 1, none⟩) (show g < w2.heap.size by omega)).trans c1'.out
  have hs3 := hb23.out.size
  clear own3 hgrow
  go_wp2_with fail
  rw [rounds_succ]
  go_wp2_with fail
  refine Calls.mono (hd.out _) ?_
  rintro e w4 ⟨A4, c4, rfl, own4, hb4⟩
  have own3' := Lib.hid (own_below hfin.out hb4)
  have own4' := Lib.hid own4
  have hb04 := Lib.hid (below_step hb3.out (Nat.le_refl _) hb4)
  have hs4 := hb4.size
  clear own4 hb4
  go_wp2_with (first
    | (at_builtin; go_loud (refine wpList_append_row rfl (.tmp 17) (.tmp 19) 40 rfl w.heap.size 76 i0 _ 2 24 Tryz.underlying40 hi0 hz0 hz1 hz2 rfl (by decide) _ _ _ rfl own3'.out w3.heap.size _ _ _ rfl own4'.out ?d1 ?d2 ?d3 ?d4 ?_))
    | fail)
  case d1 => exact NVs_one _
  case d2 => unfold maxLen; omega
  case d3 => omega
  case d4 => omega
  intro A5 c5 w5 own5 hgrow5
  have hfin5 := Lib.hid (show w5.ownsRow w.heap.size 76 2 (.slice A5 (l ++ k).length c5) (l ++ k).length (NVs (l ++ k)) from by
    rw [NVs_append, List.length_append]; exact own5)
  have hb5 := Lib.hid (hb04.out.grown hgrow5 (by omega) (fun j hj => (own3'.out.lt j hj).1))
  have hlen5 : l.length + k.length = (l ++ k).length := by simp
  clear own5 hgrow5
  go_wp2_with fail
  rw [rounds_succ]
  go_wp2_with fail
  go_ret
  exact ⟨A5, c5, by rw [← hlen5]; rfl, hfin5.out, hb5.out⟩

theorem Src.uses_len : ∀ m : Src, m.uses.length ≤ m.size
  | .v s => by simp [Src.uses, Src.size]
  | .nb h s m => by
    have := m.uses_len
    have := minus_len m.uses s
    rw [Src.uses, Src.size]
    split
    · rw [List.length_cons]; omega
    · omega
  | .n1 h m => by have := m.uses_len; rw [Src.uses, Src.size]; omega
  | .n2 h m n => by have := m.uses_len; have := n.uses_len; rw [Src.uses, Src.size, List.length_append]; omega
theorem Src.uses_name : ∀ {m : Src}, m.ok = true → ∀ x ∈ m.uses, isName x = true
  | .v s, h, x, hx => by
    simp [Src.uses] at hx; subst hx
    rw [Src.ok] at h
    unfold isName; rw [h]; rfl
  | .nb h s m, hok, x, hx => by
    rw [Src.ok, Bool.and_eq_true, Bool.and_eq_true] at hok
    rw [Src.uses] at hx
    split at hx
    · rcases List.mem_cons.1 hx with rfl | hx
      · exact hnB_name hok.1.2
      · exact Src.uses_name hok.2 x hx
    · unfold minus at hx
      exact Src.uses_name hok.2 x (List.mem_filter.1 hx).1
  | .n1 h m, hok, x, hx => by
    rw [Src.ok, Bool.and_eq_true] at hok
    exact Src.uses_name hok.2 x hx
  | .n2 h m n, hok, x, hx => by
    rw [Src.ok, Bool.and_eq_true, Bool.and_eq_true] at hok
    rw [Src.uses, List.mem_append] at hx
    rcases hx with hx | hx
    · exact Src.uses_name hok.1.2 x hx
    · exact Src.uses_name hok.2 x hx

theorem uss_any : ∀ {m : Src}, m.ok = true → m.size ≤ 9000 → USS m
  | .v s, h, _ => by
    obtain ⟨c, d, rfl⟩ : ∃ c d, s = c :: d := by
      cases s with
      | nil => cases h
      | cons c d => exact ⟨c, d, rfl⟩
    exact uss_v c d
  | .nb h s m, hok, hz => fun w => by
    rw [Src.ok, Bool.and_eq_true, Bool.and_eq_true] at hok
    rw [Src.size] at hz
    have ih := Lib.hid (fun w => uss_any hok.2 (by omega) w)
    have hul := m.uses_len
    have hne : ∀ x ∈ m.uses, x ≠ [] := fun x hx => isName_ne (Src.uses_name hok.2 x hx)
    obtain ⟨c, d, rfl⟩ : ∃ c d, s = c :: d := by
      cases s with
      | nil => exact absurd rfl (hnB_ne hok.1.2)
      | cons c d => exact ⟨c, d, rfl⟩
    have hh := hok.1.1
    simp only [isNb, Bool.or_eq_true, beq_iff_eq] at hh
    rcases hh with (rfl | rfl) | rfl
    · exact uss_lambda c d (sty m) (sv m) m.uses hne (by omega) ih w
    · exact uss_catch c d (sty m) (sv m) m.uses hne (by omega) ih w
    · exact uss_throw c d (sty m) (sv m) m.uses (by omega) ih w
  | .n1 h m, hok, hz => fun w => by
    rw [Src.ok, Bool.and_eq_true] at hok
    rw [Src.size] at hz
    have hul := m.uses_len
    have ih := Lib.hid (fun w => uss_any hok.2 (by omega) w)
    have hh := hok.1
    simp only [h1B, Bool.or_eq_true, beq_iff_eq] at hh
    rcases hh with rfl | rfl
    · exact uss_leftPart (sty m) (sv m) m.uses (by omega) ih w
    · exact uss_rightPart (sty m) (sv m) m.uses (by omega) ih w
  | .n2 h m n, hok, hz => fun w => by
    rw [Src.ok, Bool.and_eq_true, Bool.and_eq_true] at hok
    rw [Src.size] at hz
    have hul := m.uses_len
    have hul2 := n.uses_len
    have ih := Lib.hid (fun w => uss_any hok.1.2 (by omega) w)
    have ih2 := Lib.hid (fun w => uss_any hok.2 (by omega) w)
    have hh := hok.1.1
    simp only [h2B, Bool.or_eq_true, beq_iff_eq] at hh
    rcases hh with rfl | rfl
    · exact uss_application (sty m) (sty n) (sv m) (sv n) m.uses n.uses (by omega) ih ih2 w
    · exact uss_both (sty m) (sty n) (sv m) (sv n) m.uses n.uses (by omega) ih ih2 w

end Go.Proofs.YtchkmdagbjbcjaaGreatDoor
