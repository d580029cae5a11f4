/- The letters of formulas in the model: l1Letters. -/
import Derived.Test.YtmnppkmgohpmaaaLetters
namespace Go.Proofs.Ytmnppkmgohpmaaa
open Go.RowKit

def addAll (acc : List ByteArray) (fs : List F) : List ByteArray := fs.foldl addL acc
def sizes : List F → Nat
  | [] => 0
  | f :: fs => f.size + sizes fs
theorem addAll_take {acc : List ByteArray} {fs : List F} {k : Nat} {f : F} (h : fs[k]? = some f) : addAll acc (fs.take (k + 1)) = addL (addAll acc (fs.take k)) f := by
  rw [List.take_add_one, h]; unfold addAll; rw [List.foldl_append]; rfl
theorem sizes_append (fs gs : List F) : sizes (fs ++ gs) = sizes fs + sizes gs := by
  induction fs with
  | nil => simp [sizes]
  | cons f fs ih => simp [sizes, ih]; omega
theorem addAll_length (fs : List F) : ∀ acc, (addAll acc fs).length ≤ acc.length + sizes fs := by
  induction fs with
  | nil => intro acc; simp [addAll, sizes]
  | cons f fs ih => intro acc; have := ih (addL acc f); have := addL_length f acc; simp only [addAll, List.foldl_cons, sizes] at *; omega
theorem sizes_take {fs : List F} {k : Nat} {f : F} (h : fs[k]? = some f) : sizes (fs.take k) + f.size ≤ sizes fs := by
  have e : fs.take (k + 1) ++ fs.drop (k + 1) = fs := List.take_append_drop _ _
  rw [List.take_add_one, h] at e
  have := congrArg sizes e
  rw [sizes_append, sizes_append] at this
  simp [sizes] at this
  omega

def LT (f : F) : Prop := ∀ (base : Nat) (acc : List ByteArray) (A : Option Addr) (c : Nat) (w : World) (D : Nat → Prop) (s : ByteArray) (p : Option Addr) (n m : Nat),
  TC w D f.tree s p n m → (∀ g, D g → g < w.heap.size ∧ (Value.slice A acc.length c).ownBlock ≠ some g) → w.ownsRow base 9 1 (.slice A acc.length c) acc.length (acc.map Value.string) → base ≤ w.heap.size → acc.length + f.size ≤ 1000000 →
  Calls Try.prog 37 #[.agg #[.string s, .slice p n m], .slice A acc.length c] w (LRet base (addL acc f) (.slice A acc.length c) w)

theorem lt_lt (s : Bs) : LT (.lt s) := by
  intro base acc A c w D s0 p n m ht hD hown hbase hlen
  rw [F.tree, TC] at ht
  obtain ⟨hs, rfl, rfl, rfl, rfl⟩ := ht
  obtain ⟨i0, hi0, hz0, hz1, hz2⟩ := info_parts infoStr
  rw [F.size] at hlen
  have he : s.isEmpty = false := by cases s with
    | nil => exact absurd rfl hs
    | cons => rfl
  have hhas : Hid (∀ W, Below w.heap.size w W → Calls Try.prog 58 #[.slice A acc.length c, .string ⟨s.toArray⟩] W fun e w' => e = .returned (.bool (isIn ⟨s.toArray⟩ acc)) ∧ W = w') := fun W hW =>
    has_any A acc.length c acc _ W ((RowS.of_own hown).below hW) (by omega)
  have yes : ∀ W', Below w.heap.size w W' → isIn ⟨s.toArray⟩ acc = true → LRet base (addL acc (.lt s)) (.slice A acc.length c) w (.returned (.slice A acc.length c)) W' := fun W' hb h => by
    rw [addL, if_pos h]
    exact ⟨A, c, rfl, own_below hown hb, below_grown hb _, .inl rfl⟩
  have hno : isIn ⟨s.toArray⟩ acc = false → addL acc (.lt s) = acc ++ [⟨s.toArray⟩] := fun h => by rw [addL, h]; rfl
  have yes' := Lib.hid yes
  have hno' := Lib.hid hno
  have hown' := Lib.hid hown
  have hbase' := Lib.hid hbase
  clear yes hno hown hbase hD
  cases hin : isIn ⟨s.toArray⟩ acc with
  | true =>
    have hin' := Lib.hid hin
    rw [hin] at hhas
    clear hin
    go_enter Try.func37, Try.ntmps37
    go_wp2_with (go_at_call 58; refine (hhas.out _ (by repeat (with_reducible first | exact hbel | exact Below.refl _ _ | refine Below.drew ?_ | refine Below.drewN ?_ _ | refine Below.alloc ?_ (by first | (simp; done) | (simp; omega) | omega | (have := Below.size hbel; simp; omega) | (have := Below.size hbel; omega)) _ | refine Below.setCell ?_ (by first | (simp; done) | (simp; omega) | omega) _))).mono ?_; rintro e w' ⟨rfl, rfl⟩)
    go_ret
    exact yes'.out _ (by repeat (with_reducible first | exact hbel | exact Below.refl _ _ | refine Below.drew ?_ | refine Below.drewN ?_ _ | refine Below.alloc ?_ (by first | (simp; done) | (simp; omega) | omega | (have := Below.size hbel; simp; omega) | (have := Below.size hbel; omega)) _ | refine Below.setCell ?_ (by first | (simp; done) | (simp; omega) | omega) _)) hin'.out
  | false =>
    have hin' := Lib.hid hin
    rw [hin] at hhas
    clear hin
    go_enter Try.func37, Try.ntmps37
    go_wp2_with (first
      | (go_at_call 58; refine (hhas.out _ (by repeat (with_reducible first | exact hbel | exact Below.refl _ _ | refine Below.drew ?_ | refine Below.drewN ?_ _ | refine Below.alloc ?_ (by first | (simp; done) | (simp; omega) | omega | (have := Below.size hbel; simp; omega) | (have := Below.size hbel; omega)) _ | refine Below.setCell ?_ (by first | (simp; done) | (simp; omega) | omega) _))).mono ?_; rintro e w' ⟨rfl, rfl⟩)
      | (at_builtin; go_loud (refine wpList_append_lies _ rfl (.tmp 14) (.tmp 17) 23 rfl base 9 i0 _ 1 16 Try.underlying23 hi0 hz0 hz1 hz2 rfl (by decide) _ _ _ rfl ((hown'.out.alloc _).alloc _) ⟨w.heap.size + 1, 0, none⟩ 1 1 [.string ⟨s.toArray⟩] rfl rfl ?c1 ?c2 (by decide) ?c3 ?c4 ?c5 _ rfl ?_)))
    case c1 => exact World.news_of_block (cs := #[.string ⟨s.toArray⟩]) (second_alloc _ _ _)
    case c2 => intro u hu; simp at hu; rw [hu]; rfl
    case c3 => unfold maxLen; omega
    case c4 => omega
    case c5 => have := hbase'.out; simp; omega
    intro g cap w2 hown2 hgrow hat hlt2
    have hfin : Hid (LRet base (addL acc (.lt s)) (.slice A acc.length c) w (.returned (.slice (some ⟨g, 0, none⟩) (acc.length + 1) cap)) w2) := by
      rw [hno'.out hin'.out]
      refine ⟨some ⟨g, 0, none⟩, cap, by simp, by simpa using hown2, grown_trans' (grown_trans' (World.grownBy_alloc w _ _) (World.grownBy_alloc _ _ _)) hgrow, ?_⟩
      rcases hat with h | h
      · exact .inl h.symm
      · exact .inr ⟨g, rfl, by rw [h]; omega⟩
    clear hown2 hgrow hat
    go_wp2_with fail
    go_ret
    exact hfin.out

theorem lt_node (x : T) (fs : List F) (H : Hid (∀ f, f ∈ fs → LT f)) (hfs : fs.length ≤ 10) (base : Nat) (acc : List ByteArray) (A : Option Addr) (c : Nat) (w : World) (D : Nat → Prop) (s : ByteArray) (p : Option Addr) (n m : Nat)
    (ht : TC w D (.node (x :: fs.map F.tree)) s p n m) (hD : ∀ g, D g → g < w.heap.size ∧ (Value.slice A acc.length c).ownBlock ≠ some g) (hown : w.ownsRow base 9 1 (.slice A acc.length c) acc.length (acc.map Value.string))
    (hbase : base ≤ w.heap.size) (hlen : acc.length + sizes fs ≤ 1000000) :
    Calls Try.prog 37 #[.agg #[.string s, .slice p n m], .slice A acc.length c] w (LRet base (addAll acc fs) (.slice A acc.length c) w) := by
  obtain ⟨rfl, hn, g, rfl, hg, hp⟩ := ht.part
  have hn' : n = fs.length + 1 := by rw [hn]; simp
  subst hn'
  have hgw := hD g hg
  have hown' := Lib.hid hown
  have hp' := Lib.hid hp
  have hD' := Lib.hid hD
  have hbase' := Lib.hid hbase
  have hlt' := Lib.hid hown.lt
  clear hown hp hD hbase ht hg hn
  go_enter Try.func37, Try.ntmps37
  go_wp2_with fail
  go_loopw [1, 5] (fun lv i wr => ∃ (j : Nat) (A1 : Option Addr) (c1 : Nat), j ≤ fs.length ∧ i = .int .i64 ((j + 1 : Nat) : Int) ∧ lv = .slice A1 (addAll acc (fs.take j)).length c1 ∧
      wr.ownsRow base 9 1 (.slice A1 (addAll acc (fs.take j)).length c1) (addAll acc (fs.take j)).length ((addAll acc (fs.take j)).map Value.string) ∧
      w.grownBy wr (Value.slice A acc.length c).ownBlock ∧ Moved (.slice A1 (addAll acc (fs.take j)).length c1) (.slice A acc.length c) (w.heap.size + 1) ∧
      wr.heap[w.heap.size]? = some (.cells #[.string ⟨#[]⟩, .slice (some ⟨g, 0, none⟩) (fs.length + 1) m] 37 (0, 0)))
    (fun _ i _ => fs.length + 1 - (intOf i).toNat)
  case atStart => exact ⟨0, A, c, Nat.zero_le _, rfl, rfl, hown'.out.alloc _, World.grownBy_alloc _ _ _, .inl rfl, heap_alloc_new _ _⟩
  case round =>
    obtain ⟨j, A1, c1, hj, rfl, rfl, own1, gr1, mv1, hbx⟩ := hrel
    obtain ⟨z0, b0, b1, -, -⟩ := two_cells hbx
    have own1' := Lib.hid own1
    have gr1' := Lib.hid gr1
    have mv1' := Lib.hid mv1
    have hbx' := Lib.hid hbx
    clear own1 mv1 hbx
    by_cases hlt : j < fs.length
    · obtain ⟨f, hfj⟩ : ∃ f, fs[j]? = some f := ⟨fs[j], List.getElem?_eq_getElem hlt⟩
      obtain ⟨a1, p1, n1, m1, x0, x1, t1⟩ := hp'.out (j + 1) f.tree (by rw [List.getElem?_cons_succ, List.getElem?_map, hfj]; rfl)
      have keep : ∀ o, wr.cell? ⟨g, o, none⟩ = w.cell? ⟨g, o, none⟩ := fun o => World.cell?_of_block (a := ⟨g, o, none⟩) (gr1.block g hgw.1 (fun e => hgw.2 e.symm))
      have y0 := (keep ((j + 1) * 2)).trans x0
      have y1 := (keep ((j + 1) * 2 + 1)).trans x1
      have i0 : (0 : Int) ≤ (j : Int) + 1 := by omega
      have i1 : (j : Int) + 1 < (fs.length : Int) + 1 := by omega
      have hcall : Hid (Calls Try.prog 37 #[.agg #[.string a1, .slice p1 n1 m1], .slice A1 (addAll acc (fs.take j)).length c1] wr (LRet base (addL (addAll acc (fs.take j)) f) (.slice A1 (addAll acc (fs.take j)).length c1) wr)) := by
        refine H.out f (List.mem_of_getElem? hfj) base _ A1 c1 wr D a1 p1 n1 m1 ?_ ?_ own1'.out (by have := hbase'.out; have := gr1.size; omega) ?_
        · exact TC.keep (fun k hk => gr1.block k (hD'.out k hk).1 (fun e => (hD'.out k hk).2 e.symm)) (fun _ h => h) _ _ _ _ _ t1
        · intro k hk
          exact ⟨Nat.lt_of_lt_of_le (hD'.out k hk).1 gr1.size, mv1'.out.keepBlock (by have := (hD'.out k hk).1; omega) (hD'.out k hk).2⟩
        · have h1 := addAll_length (fs.take j) acc
          have h2 := sizes_take hfj
          omega
      rw [← addAll_take hfj] at hcall
      generalize addAll acc (fs.take j) = L at *
      have hcall' := Lib.hid hcall
      clear x0 x1 t1 keep hfj hcall gr1
      go_wp2_with fail
      refine hcall'.out.out.mono ?_
      rintro e w1 ⟨A2, c2, rfl, own2, gr2, mv2⟩
      have own2' := Lib.hid own2
      have gr2' := Lib.hid gr2
      have mv2' := Lib.hid mv2
      clear own2 gr2 mv2
      go_wp2_with fail
      go_roundw
      case rel =>
        refine ⟨j + 1, A2, c2, by omega, by go_num, rfl, own2'.out, ?_, ?_, ?_⟩
        · refine ⟨gr2'.out.os.trans gr1'.out.os, gr2'.out.tape.trans gr1'.out.tape, gr2'.out.output.trans gr1'.out.output, Nat.le_trans gr1'.out.size gr2'.out.size, fun k hk hne => ?_⟩
          rw [gr2'.out.block k (Nat.lt_of_lt_of_le hk gr1'.out.size) (fun e => mv1'.out.keepBlock (by omega) (fun e => hne e.symm) e.symm), gr1'.out.block k hk hne]
        · rcases mv2'.out with h | ⟨q, hq, hle⟩
          · rcases mv1'.out with h' | ⟨q, hq, hle⟩
            · exact .inl (h.trans h')
            · exact .inr ⟨q, h.trans hq, hle⟩
          · exact .inr ⟨q, hq, by have := gr1'.out.size; omega⟩
        · rw [gr2'.out.block _ z0 (fun e => mv1'.out.keepBlock (k := w.heap.size) (by omega) (fun e => by have := hlt'.out _ e; omega) e.symm)]
          exact hbx'.out
      case measure => simp [intOf]; omega
    · have hfin : Hid (LRet base (addAll acc fs) (.slice A acc.length c) w (.returned (.slice A1 (addAll acc (fs.take j)).length c1)) wr) := by
        have e : fs.take j = fs := List.take_of_length_le (by omega)
        have o := own1'.out
        have mv := mv1'.out
        rw [e] at o mv ⊢
        refine ⟨A1, c1, rfl, o, gr1'.out, ?_⟩
        rcases mv with h | ⟨q, hq, hle⟩
        · exact .inl h
        · exact .inr ⟨q, hq, by omega⟩
      have i1 : ¬ ((j : Int) + 1 < (fs.length : Int) + 1) := by omega
      clear gr1
      go_wp2_with fail
      go_ret
      exact hfin.out

theorem lt_of (f : F) : LT f := by
  induction f with
  | lt s => exact lt_lt s
  | an a b ha hb =>
    intro base acc A c w D s p n m ht hD hown hbase hlen
    exact lt_node _ [a, b] (fun f hf => by simp at hf; rcases hf with rfl | rfl; exact ha; exact hb) (by simp) base acc A c w D s p n m ht hD hown hbase (by rw [F.size] at hlen; simp [sizes]; omega)
  | or a b ha hb =>
    intro base acc A c w D s p n m ht hD hown hbase hlen
    exact lt_node _ [a, b] (fun f hf => by simp at hf; rcases hf with rfl | rfl; exact ha; exact hb) (by simp) base acc A c w D s p n m ht hD hown hbase (by rw [F.size] at hlen; simp [sizes]; omega)
  | no a ha =>
    intro base acc A c w D s p n m ht hD hown hbase hlen
    exact lt_node _ [a] (fun f hf => by simp at hf; rcases hf with rfl; exact ha) (by simp) base acc A c w D s p n m ht hD hown hbase (by rw [F.size] at hlen; simp [sizes]; omega)

end Go.Proofs.Ytmnppkmgohpmaaa
