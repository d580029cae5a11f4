/- The model's l1Sequent, l1True, SequentHolds. -/
import Derived.Test.YtmnppkmgohpmaaaSeqFn
namespace Go.Proofs.Ytmnppkmgohpmaaa
open Go.RowKit

/-- The slice (A, n) reads as these trees. -/
def TCs (w : World) (D : Nat → Prop) (ts : List T) (A : Option Addr) (n : Nat) : Prop :=
  n = ts.length ∧ (0 < n → ∃ g, A = some ⟨g, 0, none⟩ ∧ D g ∧ ∀ (i : Nat) (t : T), ts[i]? = some t → ∃ a p l c, w.cell? ⟨g, i * 2, none⟩ = some (.string a) ∧ w.cell? ⟨g, i * 2 + 1, none⟩ = some (.slice p l c) ∧ TC w D t a p l c)

def LSRet (o : Option (List F × List F)) (w : World) (e : Ending) (w' : World) : Prop :=
  Below w.heap.size w w' ∧ ∃ A n c B m d, e = .returned (.tuple #[.slice A n c, .slice B m d, .bool o.isSome]) ∧ ∀ fs gs, o = some (fs, gs) →
    TCs w' (New w.heap.size w') (fs.map F.tree) A n ∧ TCs w' (New w.heap.size w') (gs.map F.tree) B m

/-- A list of trees being made. -/
structure LR (w : World) (lo : Nat) (wr : World) (v : Value) (fs : List F) (xs : List Value) : Prop where
  own : wr.ownsRow w.heap.size 37 2 v fs.length xs
  kids : Kids wr (fun g => New lo wr g ∧ v.ownBlock ≠ some g) (fs.map F.tree) xs
  below : Below w.heap.size w wr
  hi : lo ≤ wr.heap.size

theorem LR.tcs {w wr : World} {lo : Nat} {A : Option Addr} {c : Nat} {fs : List F} {xs : List Value} (h : LR w lo wr (.slice A fs.length c) fs xs) {D : Nat → Prop}
    (hD : ∀ g, New lo wr g → D g) (hD' : ∀ g, (Value.slice A fs.length c).ownBlock = some g → w.heap.size ≤ g ∧ g < wr.heap.size → D g) : TCs wr D (fs.map F.tree) A fs.length := by
  refine ⟨by simp, fun hn => ?_⟩
  obtain ⟨g, cap, hv, _, hlt⟩ := h.own.form hn
  have hA : A = some ⟨g, 0, none⟩ := by injection hv
  subst hA
  refine ⟨g, rfl, hD' g rfl (h.own.lt g rfl), fun i t hi => ?_⟩
  obtain ⟨a, p, l, c', x0, x1, tc⟩ := Kids.at_ h.kids hi
  have e : ∀ j, ({ block := g, off := 0, spot := none } : Addr).add j = ⟨g, j, none⟩ := fun j => by unfold Addr.add; split <;> simp_all
  have y0 := h.own.cells (g := g) rfl _ _ x0
  have y1 := h.own.cells (g := g) rfl _ _ x1
  rw [e] at y0 y1
  exact ⟨a, p, l, c', y0, y1, TC.keep (fun _ _ => rfl) (fun g hg => hD g hg.1) _ _ _ _ _ tc⟩

theorem TCs.keep {w w' : World} {D D' : Nat → Prop} {ts : List T} {A : Option Addr} {n : Nat} (h : TCs w D ts A n) (hw : ∀ g, D g → w'.heap[g]? = w.heap[g]?) (hD : ∀ g, D g → D' g) : TCs w' D' ts A n := by
  refine ⟨h.1, fun hn => ?_⟩
  obtain ⟨g, e, hg, hc⟩ := h.2 hn
  refine ⟨g, e, hD g hg, fun i t hi => ?_⟩
  obtain ⟨a, p, l, c, x0, x1, tc⟩ := hc i t hi
  exact ⟨a, p, l, c, (World.cell?_of_block (a := ⟨g, i * 2, none⟩) (hw g hg)).trans x0, (World.cell?_of_block (a := ⟨g, i * 2 + 1, none⟩) (hw g hg)).trans x1, TC.keep hw hD _ _ _ _ _ tc⟩

/-- One tree more. -/
theorem LR.step {w wr w1 w2 : World} {lo : Nat} {v : Value} {fs : List F} {xs : List Value} {f : F} {a : ByteArray} {p : Option Addr} {l c g cap : Nat} {X Y : Obj} (h : LR w lo wr v fs xs) (hlo : w.heap.size ≤ lo)
    (hb1 : Below wr.heap.size wr w1) (htc : TC w1 (New wr.heap.size w1) f.tree a p l c) (hgrow : ((w1.alloc X).alloc Y).grownBy w2 v.ownBlock)
    (hat : v.ownBlock = some g ∨ g = ((w1.alloc X).alloc Y).heap.size) (own2 : w2.ownsRow w.heap.size 37 2 (.slice (some ⟨g, 0, none⟩) (fs.length + 1) cap) (fs.length + 1) (xs ++ [.string a, .slice p l c])) :
    LR w lo w2 (.slice (some ⟨g, 0, none⟩) (fs ++ [f]).length cap) (fs ++ [f]) (xs ++ [.string a, .slice p l c]) := by
  have hW : Below w1.heap.size w1 ((w1.alloc X).alloc Y) := ((Below.refl _ _).alloc (Nat.le_refl _) _).alloc (by simp) _
  have hk := kids_step (m := fs.length + 1) (cap := cap) h.hi h.own h.kids hb1 htc hW hgrow hat
  have s1 := hb1.size
  have s2 := hW.size
  have s3 := hgrow.size
  have s4 := h.hi
  refine ⟨by simpa using own2, by simpa using hk, ?_, by omega⟩
  exact ((h.below.trans (hb1.mono h.below.size)).trans (hW.mono (Nat.le_trans h.below.size s1))).grown hgrow (by have := h.below.size; omega) (fun j hj => (h.own.lt j hj).1)

theorem l1Sequent_any (A B : Option Addr) (n c m d : Nat) (ss ts : List ByteArray) (w : World) (hr : RowS w A n ss) (hs : RowS w B m ts) (hn : n ≤ 10000000) (hm : m ≤ 10000000) :
    Calls Try.prog 47 #[.slice A n c, .slice B m d] w (LSRet (readSq ss ts) w) := by
  have hl := hr.1
  have hl2 := hs.1
  have s1 : IntKind.i64.wrap ((n : Int) + (m : Int)) = (n : Int) + (m : Int) := IntWalk.i64_in _ (by omega)
  have hno : Hid (readSq ss ts = none → ∀ w' A1 n1 c1 B1 m1 d1, Below w.heap.size w w' → LSRet (readSq ss ts) w (.returned (.tuple #[.slice A1 n1 c1, .slice B1 m1 d1, .bool false])) w') := by
    refine Lib.hid fun h w' A1 n1 c1 B1 m1 d1 hb => ?_
    rw [h]
    exact ⟨hb, _, _, _, _, _, _, rfl, fun _ _ h => by cases h⟩
  by_cases h12 : 12 < n + m
  · have h0 := Lib.hid (show readSq ss ts = none by rw [readSq, if_neg (by omega)])
    have i1 : (12 : Int) < (n : Int) + (m : Int) := by omega
    clear hr hs hl hl2
    go_enter Try.func47, Try.ntmps47
    go_wp2_with fail
    refine bodyPost_ret (v := .tuple #[.slice (some ⟨w.heap.size, 0, none⟩) 0 0, .slice (some ⟨w.heap.size + 1, 0, none⟩) 0 0, .bool false]) (by simp [results, Try.results47, go_sem]) rfl ?_
    exact hno.out h0.out _ _ _ _ _ _ _ (by repeat (with_reducible first | exact hbel | exact Below.refl _ _ | refine Below.drew ?_ | refine Below.drewN ?_ _ | refine Below.alloc ?_ (by first | (simp; done) | (simp; omega) | omega | (have := Below.size hbel; simp; omega) | (have := Below.size hbel; omega)) _ | refine Below.setCell ?_ (by first | (simp; done) | (simp; omega) | omega) _))
  · have i1 : ¬ (12 : Int) < (n : Int) + (m : Int) := by omega
    have hr' := Lib.hid hr
    have hs' := Lib.hid hs
    have hl' := Lib.hid hl
    have hl2' := Lib.hid hl2
    have hq := Lib.hid (show readSq ss ts = bothO (readFs ss) (readFs ts) by rw [readSq, if_pos (by omega)])
    generalize readSq ss ts = oq at *
    obtain ⟨i0, hi0, hz0, hz1, hz2⟩ := info_parts infoTree
    clear hr hs hl hl2
    go_enter Try.func47, Try.ntmps47
    go_wp2_with fail
    go_loopw [7, 9] (fun av i wr => ∃ (fs : List F) (A1 : Option Addr) (c1 : Nat) (xs : List Value), fs.length ≤ n ∧ i = .int .i64 fs.length ∧ av = .slice A1 fs.length c1 ∧ readFs (ss.take fs.length) = some fs ∧
        LR w (w.heap.size + 2) wr (.slice A1 fs.length c1) fs xs ∧ (Value.slice A1 fs.length c1).ownBlock ≠ some (w.heap.size + 1) ∧ wr.heap[w.heap.size + 1]? = some (.cells #[] 37 (0, 0)))
      (fun _ i _ => n - (intOf i).toNat)
    case atStart =>
      have o := World.ownsRow_lit (base := w.heap.size) (e := 37) (size := 2) w #[] 0 (Nat.le_refl _) (by unfold maxLen; omega) rfl
      refine ⟨[], some ⟨w.heap.size, 0, none⟩, 0, [], Nat.zero_le _, rfl, rfl, rfl, ⟨o.alloc _, by exact rfl, ((Below.refl _ _).alloc (Nat.le_refl _) _).alloc (by simp) _, by simp⟩, ?_, second_alloc _ _ _⟩
      simp [Value.ownBlock]
    case round =>
      obtain ⟨fs, A1, c1, xs, hj, rfl, rfl, hfs, R, hne, hbB⟩ := hrel
      have hbel := R.below
      by_cases hlt : fs.length < n
      · obtain ⟨b, o, rfl, hblt, hc⟩ := hr'.out.2 (by omega)
        have l1 : fs.length < ss.length := by have := hl'.out; omega
        have x1 := (hbel.cell (p := ⟨b, o + fs.length, none⟩) hblt).trans (hc fs.length ss[fs.length] (List.getElem?_eq_getElem l1))
        have j1 : (fs.length : Int) < (n : Int) := by omega
        have j0 : (0 : Int) ≤ (fs.length : Int) := by omega
        have hstep := readFs_step l1 hfs
        generalize ss[fs.length] = t at x1 hstep
        have R' := Lib.hid R
        have hbB' := Lib.hid hbB
        have hlo : w.heap.size + 2 ≤ wr.heap.size := R.hi
        clear hc hfs hbel R hbB
        go_wp2_with fail
        refine (l1Formula_any t _).mono ?_
        rintro e w1 ⟨hb1, hp⟩
        have hw1 := Lib.hid (below_step R'.out.below (Nat.le_refl _) hb1)
        rcases hp with ⟨f, a, p, l, cc, hrd, rfl, htc⟩ | ⟨a, p, l, cc, hrd, rfl⟩
        · rw [hrd] at hstep
          have hstep' := Lib.hid hstep
          have own1 := Lib.hid (own_below R'.out.own hb1)
          have hb1' := Lib.hid hb1
          have htc' := Lib.hid htc
          have hz1' : wr.heap.size ≤ w1.heap.size := hb1.size
          clear hrd hstep hb1 htc
          go_wp2_with (at_builtin; go_loud (refine wpList_append_lies _ rfl (.tmp 43) (.tmp 45) 35 rfl w.heap.size 37 i0 _ 2 40 Try.underlying35 hi0 hz0 hz1 hz2 rfl (by decide) _ _ _ rfl ((own1.out.alloc _).alloc _) ⟨w1.heap.size + 1, 0, none⟩ 1 1 [.string a, .slice p l cc] rfl rfl ?c1 ?c2 (by decide) ?c3 ?c4 ?c5 _ rfl ?_))
          case c1 => exact World.news_of_block (cs := #[.string a, .slice p l cc]) (second_alloc _ _ _)
          case c2 => intro u hu; simp at hu; rcases hu with rfl | rfl <;> rfl
          case c3 => unfold maxLen; omega
          case c4 => omega
          case c5 => simp; omega
          intro g cap w2 hown2 hgrow hat hlt2
          have R2 := Lib.hid (R'.out.step (by omega) hb1'.out htc'.out hgrow (by rcases hat with h | h; exact .inl h; exact .inr (by rw [h]; simp)) hown2)
          have hne2 : Hid (g ≠ w.heap.size + 1) := Lib.hid (by
            rcases hat with h | h
            · exact fun e => hne (by rw [h, e])
            · intro e; rw [h] at e; simp at e; omega)
          have hbB2 : Hid (w2.heap[w.heap.size + 1]? = some (.cells #[] 37 (0, 0))) := Lib.hid (by
            rw [hgrow.block _ (by simp; omega) (fun e => hne e.symm), Below.heap_alloc _ _ _ (by simp; omega), Below.heap_alloc _ _ _ (by omega), hb1'.out.block _ (by omega)]
            exact hbB'.out)
          clear hown2 hgrow hat
          go_wp2_with fail
          go_roundw
          case rel =>
            exact ⟨fs ++ [f], some ⟨g, 0, none⟩, cap, xs ++ [.string a, .slice p l cc], by simp; omega, by simp, by simp, by simpa using hstep'.out, R2.out, by intro e; injection e with e; exact hne2.out e, hbB2.out⟩
          case measure => simp [intOf]; omega
        · rw [hrd] at hstep
          have h0 : Hid (oq = none) := Lib.hid (by rw [hq.out, readFs_stop hstep]; rfl)
          clear hrd hstep hb1
          go_wp2_with fail
          refine bodyPost_ret (v := .tuple #[.slice A1 fs.length c1, .slice (some ⟨w.heap.size + 1, 0, none⟩) 0 0, .bool false]) (by simp [results, Try.results47, go_sem]) rfl ?_
          have hbel := hw1.out
          exact hno.out h0.out _ _ _ _ _ _ _ (by repeat (with_reducible first | exact hbel | exact Below.refl _ _ | refine Below.drew ?_ | refine Below.drewN ?_ _ | refine Below.alloc ?_ (by first | (simp; done) | (simp; omega) | omega | (have := Below.size hbel; simp; omega) | (have := Below.size hbel; omega)) _ | refine Below.setCell ?_ (by first | (simp; done) | (simp; omega) | omega) _))
      · have hA : Hid (readFs ss = some fs) := Lib.hid (by rw [List.take_of_length_le (by have := hl'.out; omega)] at hfs; exact hfs)
        have hlo : w.heap.size + 2 ≤ wr.heap.size := R.hi
        have hta : Hid (TCs wr (fun g => New w.heap.size wr g ∧ g ≠ w.heap.size + 1) (fs.map F.tree) A1 fs.length) := Lib.hid
          (R.tcs (fun g hg => ⟨⟨by have := hg.1; omega, hg.2⟩, by have := hg.1; omega⟩) (fun g hg h => ⟨h, fun e => hne (by rw [hg, e])⟩))
        have hbel' := Lib.hid hbel
        have hown0 : Hid (wr.ownsRow w.heap.size 37 2 (.slice (some ⟨w.heap.size + 1, 0, none⟩) 0 0) 0 []) := Lib.hid (by
          have o := World.ownsRow_lit (base := w.heap.size) (e := 37) (size := 2) (w.alloc (.cells #[] 37)) #[] 0 (by simp) (by unfold maxLen; omega) rfl
          refine own_same (w := (w.alloc (.cells #[] 37)).alloc (.cells #[] 37)) (by simpa using o) (fun j hj => ?_)
          injection hj with hj
          subst hj
          rw [hbB, second_alloc])
        have hwlo : w.heap.size + 1 < wr.heap.size := by omega
        clear hfs R hne hbB hbel
        go_wp2_with fail
        go_loopw [8, 12] (fun bv i wr => ∃ (gs : List F) (B1 : Option Addr) (d1 : Nat) (ys : List Value), gs.length ≤ m ∧ i = .int .i64 gs.length ∧ bv = .slice B1 gs.length d1 ∧ readFs (ts.take gs.length) = some gs ∧
            LR w w.heap.size wr (.slice B1 gs.length d1) gs ys ∧ TCs wr (fun g => New w.heap.size wr g ∧ (Value.slice B1 gs.length d1).ownBlock ≠ some g) (fs.map F.tree) A1 fs.length)
          (fun _ i _ => m - (intOf i).toNat)
        case atStart =>
          refine ⟨[], some ⟨w.heap.size + 1, 0, none⟩, 0, [], Nat.zero_le _, rfl, rfl, rfl, ⟨hown0.out, by exact rfl, hbel'.out, by omega⟩, hta.out.keep (fun _ _ => rfl) (fun g hg => ⟨hg.1, ?_⟩)⟩
          have h2 := hg.2
          simp [Value.ownBlock]
          omega
        case round =>
          obtain ⟨gs, B1, d1, ys, hj, rfl, rfl, hgs, R, hta⟩ := hrel
          have hbel := R.below
          by_cases hlt : gs.length < m
          · obtain ⟨b, o, rfl, hblt, hc⟩ := hs'.out.2 (by omega)
            have l1 : gs.length < ts.length := by have := hl2'.out; omega
            have x1 := (hbel.cell (p := ⟨b, o + gs.length, none⟩) hblt).trans (hc gs.length ts[gs.length] (List.getElem?_eq_getElem l1))
            have j1 : (gs.length : Int) < (m : Int) := by omega
            have j0 : (0 : Int) ≤ (gs.length : Int) := by omega
            have hstep := readFs_step l1 hgs
            generalize ts[gs.length] = t at x1 hstep
            have R' := Lib.hid R
            have hta' := Lib.hid hta
            have hlo : w.heap.size ≤ wr.heap.size := R.hi
            clear hc hgs hbel R hta
            go_wp2_with fail
            refine (l1Formula_any t _).mono ?_
            rintro e w1 ⟨hb1, hp⟩
            have hw1 := Lib.hid (below_step R'.out.below (Nat.le_refl _) hb1)
            rcases hp with ⟨f, a, p, l, cc, hrd, rfl, htc⟩ | ⟨a, p, l, cc, hrd, rfl⟩
            · rw [hrd] at hstep
              have hstep' := Lib.hid hstep
              have own1 := Lib.hid (own_below R'.out.own hb1)
              have hb1' := Lib.hid hb1
              have htc' := Lib.hid htc
              have hz1' : wr.heap.size ≤ w1.heap.size := hb1.size
              clear hrd hstep hb1 htc
              go_wp2_with (at_builtin; go_loud (refine wpList_append_lies _ rfl (.tmp 65) (.tmp 67) 35 rfl w.heap.size 37 i0 _ 2 40 Try.underlying35 hi0 hz0 hz1 hz2 rfl (by decide) _ _ _ rfl ((own1.out.alloc _).alloc _) ⟨w1.heap.size + 1, 0, none⟩ 1 1 [.string a, .slice p l cc] rfl rfl ?c1 ?c2 (by decide) ?c3 ?c4 ?c5 _ rfl ?_))
              case c1 => exact World.news_of_block (cs := #[.string a, .slice p l cc]) (second_alloc _ _ _)
              case c2 => intro u hu; simp at hu; rcases hu with rfl | rfl <;> rfl
              case c3 => unfold maxLen; omega
              case c4 => omega
              case c5 => simp; omega
              intro g cap w2 hown2 hgrow hat hlt2
              have R2 := Lib.hid (R'.out.step (by omega) hb1'.out htc'.out hgrow (by rcases hat with h | h; exact .inl h; exact .inr (by rw [h]; simp)) hown2)
              have hta2 : Hid (TCs w2 (fun g' => New w.heap.size w2 g' ∧ (Value.slice (some ⟨g, 0, none⟩) (gs ++ [f]).length cap).ownBlock ≠ some g') (fs.map F.tree) A1 fs.length) := Lib.hid (hta'.out.keep
                (fun g' hg' => by
                  rw [hgrow.block _ (by have := hg'.1.2; simp; omega) (fun e => hg'.2 e.symm), Below.heap_alloc _ _ _ (by have := hg'.1.2; simp; omega), Below.heap_alloc _ _ _ (by have := hg'.1.2; omega), hb1'.out.block _ hg'.1.2])
                (fun g' hg' => by
                  have s2 := hgrow.size
                  simp at s2
                  refine ⟨⟨hg'.1.1, by have := hg'.1.2; omega⟩, fun e => ?_⟩
                  have e' : g = g' := by simpa [Value.ownBlock] using e
                  subst e'
                  rcases hat with h | h
                  · exact hg'.2 h
                  · have := hg'.1.2; omega))
              clear hown2 hgrow hat
              go_wp2_with fail
              go_roundw
              case rel =>
                exact ⟨gs ++ [f], some ⟨g, 0, none⟩, cap, ys ++ [.string a, .slice p l cc], by simp; omega, by simp, by simp, by simpa using hstep'.out, R2.out, hta2.out⟩
              case measure => simp [intOf]; omega
            · rw [hrd] at hstep
              have h0 : Hid (oq = none) := Lib.hid (by rw [hq.out, readFs_stop hstep]; cases readFs ss <;> rfl)
              clear hrd hstep hb1
              go_wp2_with fail
              refine bodyPost_ret (v := .tuple #[.slice A1 fs.length c1, .slice B1 gs.length d1, .bool false]) (by simp [results, Try.results47, go_sem]) rfl ?_
              have hbel := hw1.out
              exact hno.out h0.out _ _ _ _ _ _ _ (by repeat (with_reducible first | exact hbel | exact Below.refl _ _ | refine Below.drew ?_ | refine Below.drewN ?_ _ | refine Below.alloc ?_ (by first | (simp; done) | (simp; omega) | omega | (have := Below.size hbel; simp; omega) | (have := Below.size hbel; omega)) _ | refine Below.setCell ?_ (by first | (simp; done) | (simp; omega) | omega) _))
          · have hyes : Hid (LSRet oq w (.returned (.tuple #[.slice A1 fs.length c1, .slice B1 gs.length d1, .bool true])) wr) := Lib.hid (by
              rw [List.take_of_length_le (by have := hl2'.out; omega)] at hgs
              rw [hq.out, hA.out, hgs]
              refine ⟨hbel, _, _, _, _, _, _, rfl, fun fs' gs' h => ?_⟩
              cases h
              exact ⟨hta.keep (fun _ _ => rfl) (fun g hg => hg.1), R.tcs (fun g hg => hg) (fun g _ h => h)⟩)
            clear hgs R hta hbel
            go_wp2_with fail
            refine bodyPost_ret (v := .tuple #[.slice A1 fs.length c1, .slice B1 gs.length d1, .bool true]) (by simp [results, Try.results47, go_sem]) rfl ?_
            exact hyes.out

end Go.Proofs.Ytmnppkmgohpmaaa
