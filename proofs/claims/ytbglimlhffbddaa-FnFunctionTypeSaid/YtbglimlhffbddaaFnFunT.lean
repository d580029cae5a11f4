/- The law FnFunctionType as a call. -/
import Derived.Test.YtbglimlhffbddaaDrawF
import Derived.Test.YtbglimlhffbddaaDrawP
import Derived.Test.YtbglimlhffbddaaFunT
import Derived.Test.YtbglimlhffbddaaMathL
import Derived.Test.YtbglimlhffbddaaSeqFails
import Derived.Test.YtbglimlhffbddaaArgB
namespace Go.Proofs.Ytbglimlhffbddaa
set_option linter.unusedVariables false
open Go.RowKit

/-- Two texts are drawn. -/
def Draw2 (L : Nat) (w : World) (e : Ending) (w' : World) : Prop := ∃ s t : ByteArray, s.size ≤ L ∧ t.size ≤ L ∧ e = .returned (.tuple #[.string s, .string t]) ∧ Below w.heap.size w w'

theorem drawFunT_any (A : Option Addr) (n c : Nat) (w : World) (hr : ByteRow w A n) (hc : n ≤ c) : Calls Try.prog 5 #[.slice A n c] w (Draw2 43 w) := by
  have ho := Lib.hid (open_any A n c w hr hc)
  clear hr
  go_enter Try.func5, Try.ntmps5
  go_wp2_with fail
  refine Calls.mono ho.out ?_
  rintro e w1 ⟨r, A1, n1, c1, rfl, rd, hrw, hb1⟩
  have hp := Lib.hid (odd_any r A1 n1 c1 0 w1 rd (by omega))
  have hb1' := Lib.hid hb1
  clear rd hb1
  go_wp2_with fail
  refine Calls.mono hp.out ?_
  rintro e w2 ⟨s, hs, rfl, rd, sb⟩
  have hp2 := Lib.hid (odd_any r A1 n1 c1 _ w2 rd (by omega))
  have hb2 := Lib.hid (sb.below hb1'.out hrw)
  clear sb rd
  go_wp2_with fail
  refine Calls.mono hp2.out ?_
  rintro e w3 ⟨t, ht, rfl, -, sb⟩
  have hb3 := Lib.hid (sb.below hb2.out hrw)
  clear sb
  go_wp2_with fail
  go_ret2
  exact ⟨s, t, hs, ht, rfl, hb3.out⟩

theorem fails_valid {fs gs : List F} (h : ∀ v, sqEv v fs gs = true) : failB (some (fs, gs)) = false ∧ failL (some (fs, gs)) = [] := by
  have h1 := valid_ff h
  refine ⟨by simp [failB, h1], ?_⟩
  show (if (seqL fs gs).length ≤ 10 then ffL (seqL fs gs) fs gs else []) = []
  split
  · unfold ffL; rw [h1]
  · rfl
theorem readFs_one {s : ByteArray} {f : F} (h : readF s.data.toList = some f) : readFs [s] = some [f] := by
  have := readFs_snoc (s := s) (ss := []) (fs := []) rfl
  simpa [h] using this
theorem readFs_two {s t : ByteArray} {f g : F} (h : readF s.data.toList = some f) (h' : readF t.data.toList = some g) : readFs [s, t] = some [f, g] := by
  have := readFs_snoc (s := t) (readFs_one h)
  simpa [h'] using this
theorem readSq_of {ss ts : List ByteArray} {fs gs : List F} (h : readFs ss = some fs) (h' : readFs ts = some gs) (h12 : ss.length + ts.length ≤ 12) : readSq ss ts = some (fs, gs) := by
  rw [readSq, if_pos h12, h, h']; rfl

/-- A row of texts that the text itself writes out. -/
theorem rowS_lit (w : World) (ss : List ByteArray) (cs : Array Value) (E : TypeId) (hcs : cs = (ss.map Value.string).toArray) (n : Nat) (hn : n = ss.length) : RowS (w.alloc (.cells cs E)) (some ⟨w.heap.size, 0, none⟩) n ss := by
  subst hcs
  refine ⟨hn, fun _ => ⟨w.heap.size, 0, rfl, by simp, fun i s hi => ?_⟩⟩
  rw [Nat.zero_add]
  exact block_cells (heap_alloc_new w _) i _ (by simp [hi])

/-- The function type with its left part has the right part, and the other way round. -/
theorem fun_math {s t u : ByteArray} {h : F} (hu : funF (readF s.data.toList) (readF t.data.toList) = some h) (e : u = textS (some h)) :
    (failB (readSq [u, s] [t]) = false ∧ failL (readSq [u, s] [t]) = []) ∧ failB (readSq [t] [u]) = false := by
  cases hf : readF s.data.toList with
  | none => rw [hf] at hu; unfold funF at hu; split at hu <;> simp_all
  | some f =>
    cases hg : readF t.data.toList with
    | none => rw [hf, hg] at hu; cases hu
    | some g =>
      rw [hf, hg] at hu
      have hu : writeO (.no (.an f (.no g))) = some h := hu
      unfold writeO at hu
      split at hu
      · rename_i h60
        injection hu with hu
        subst hu
        have hr : readF u.data.toList = some (.no (.an f (.no g))) := by
          subst e
          show readF (F.no (.an f (.no g))).text = _
          rw [readF_text (by rw [F.ok, F.ok, F.ok, readF_ok hf, readF_ok hg]; rfl) (by omega), if_pos h60]
        rw [readSq_of (readFs_two hr hf) (readFs_one hg) (by simp), readSq_of (readFs_one hg) (readFs_one hr) (by simp)]
        refine ⟨fails_valid fun v => ?_, (fails_valid fun v => ?_).1⟩
        all_goals
          simp only [sqEv, List.any_cons, List.any_nil, F.ev]
          cases f.ev v <;> cases g.ev v <;> rfl
      · cases hu

set_option maxRecDepth 100000 in
set_option maxHeartbeats 1000000 in
theorem lawFnFunctionType (A : Option Addr) (n c : Nat) (w : World) (hr : ByteRow w A n) (hc : n ≤ c) (hn : n ≤ maxLen) : Calls Try.prog 3 #[.slice A n c] w fun e w' => e = .returned (.bool true) ∧ Below w.heap.size w w' := by
  have hd := Lib.hid (drawFunT_any A n c w hr hc)
  unfold maxLen at hn
  clear hr
  by_cases hlen : 1048576 < n
  · have hlen' : (1048576 : Int) < (n : Int) := by omega
    go_enter Try.func3, Try.ntmps3
    go_wp2_with fail
    go_ret
    exact ⟨rfl, Below.refl _ _⟩
  · have hlen' : ¬ (1048576 : Int) < (n : Int) := by omega
    go_enter Try.func3, Try.ntmps3
    go_wp2_with fail
    refine Calls.mono hd.out ?_
    rintro e w1 ⟨s, t, hs, ht, rfl, hb1⟩
    have hb1' := Lib.hid hb1
    have h1 := fun W => implFun_any s t W
    have h2 := fun W => specFun_any s t (by omega) (by omega) W
    have hm := Lib.hid (fun h u hu e => @fun_math s t u h hu e)
    clear hb1
    generalize funF (readF s.data.toList) (readF t.data.toList) = o at *
    cases o with
    | none =>
      rw [show textS none = ⟨#[]⟩ from rfl, show (none : Option F).isSome = false from rfl] at h1 h2
      have h1' := Lib.hid h1
      have h2' := Lib.hid h2
      clear h1 h2
      go_wp2_with fail
      refine Calls.mono (h1'.out _) ?_
      rintro e w2 ⟨rfl, hb2⟩
      go_wp2_with fail
      refine Calls.mono (h2'.out _) ?_
      rintro e w3 ⟨rfl, hb3⟩
      go_wp2_with fail
      go_ret
      exact ⟨rfl, below_step (below_step hb1'.out (Nat.le_refl _) hb2) (Nat.le_refl _) hb3⟩
    | some h =>
      rw [show (some h).isSome = true from rfl] at h1 h2
      have hm' := hm.out h _ rfl rfl
      generalize textS (some h) = u at *
      have h1' := Lib.hid h1
      have h2' := Lib.hid h2
      have hF := Lib.hid (fun W => (rowS_lit W [u, s] #[.string u, .string s] 9 rfl 2 rfl).below ((Below.refl _ _).alloc (Nat.le_refl _) (.cells #[.string t] 9)))
      have hG := Lib.hid (fun W : World => show RowS _ (some ⟨W.heap.size + 1, 0, none⟩) 1 [t] by have h := rowS_lit (W.alloc (.cells #[.string u, .string s] 9)) [t] #[.string t] 9 rfl 1 rfl; rwa [World.size_alloc] at h)
      have hF2 := Lib.hid (fun W => (rowS_lit W [t] #[.string t] 9 rfl 1 rfl).below ((Below.refl _ _).alloc (Nat.le_refl _) (.cells #[.string u] 9)))
      have hG2 := Lib.hid (fun W : World => show RowS _ (some ⟨W.heap.size + 1, 0, none⟩) 1 [u] by have h := rowS_lit (W.alloc (.cells #[.string t] 9)) [u] #[.string u] 9 rfl 1 rfl; rwa [World.size_alloc] at h)
      have hx := Lib.hid (fun W A B n c m d ss ts h1 h2 h3 h4 => implSeqFails_any A B n c m d ss ts W h1 h2 h3 h4)
      have hm2 := Lib.hid hm'
      clear h1 h2 hm hm'
      go_wp2_with fail
      refine Calls.mono (h1'.out _) ?_
      rintro e w2 ⟨rfl, hb2⟩
      go_wp2_with fail
      refine Calls.mono (h2'.out _) ?_
      rintro e w3 ⟨rfl, hb3⟩
      have hb13 := Lib.hid (below_step (below_step hb1'.out (Nat.le_refl _) hb2) (Nat.le_refl _) hb3)
      clear hb2 hb3
      go_wp2_with fail
      refine Calls.mono (hx.out _ _ _ 2 2 1 1 [u, s] [t] (hF.out _) (hG.out _) (by omega) (by omega)) ?_
      rw [hm2.out.1.1, hm2.out.1.2]
      rintro e w4 ⟨A4, c4, rfl, -, hb4⟩
      have hb14 := Lib.hid (hb13.out.trans ((((Below.refl _ _).alloc (Nat.le_refl _) _).alloc (by simp) _).trans (hb4.mono (by simp; omega)) |>.mono hb13.out.size))
      clear hb4
      go_wp2_with fail
      refine Calls.mono (hx.out _ _ _ 1 1 1 1 [t] [u] (hF2.out _) (hG2.out _) (by omega) (by omega)) ?_
      rw [hm2.out.2]
      rintro e w5 ⟨A5, c5, rfl, -, hb5⟩
      have hb15 := Lib.hid (hb14.out.trans ((((Below.refl _ _).alloc (Nat.le_refl _) _).alloc (by simp) _).trans (hb5.mono (by simp; omega)) |>.mono hb14.out.size))
      clear hb5
      go_wp2_with fail
      go_ret
      exact ⟨rfl, hb15.out⟩

end Go.Proofs.Ytbglimlhffbddaa
