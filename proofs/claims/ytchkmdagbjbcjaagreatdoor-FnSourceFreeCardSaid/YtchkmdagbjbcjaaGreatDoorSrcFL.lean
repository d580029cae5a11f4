/- SourceFree of the model and of the program, and its law as a call. -/
import Derived.Test.YtchkmdagbjbcjaaGreatDoorMark
import Derived.Test.YtchkmdagbjbcjaaGreatDoorSrcR
import Derived.Test.YtchkmdagbjbcjaaGreatDoorSrcL
import Derived.Test.YtchkmdagbjbcjaaGreatDoorSrcU
import Derived.Test.YtchkmdagbjbcjaaGreatDoorSrcF
namespace Go.Proofs.YtchkmdagbjbcjaaGreatDoor
set_option linter.unusedVariables false
open Go.RowKit

def kList (h : Bs) (ks : List Kd) : Kd := ⟨.node (.atom h :: ks.map Kd.t), 1 + szG ks, fun bound acc => frAll bound acc ks, fun bound acc => by
  have := frAll_len bound ks acc
  show (frAll bound acc ks).length ≤ _
  omega⟩
def kS : Src → Kd
  | .v s => kAtom s
  | .nb h s m => if h = throwB then kList h [kAtom s, kS m] else kBind h s (kS m)
  | .n1 h m => kList h [kS m]
  | .n2 h m n => kList h [kS m, kS n]

theorem kS_t : ∀ m : Src, (kS m).t = m.tree
  | .v s => rfl
  | .nb h s m => by
    rw [kS, Src.tree, ← kS_t m]
    by_cases hh : h = throwB
    · rw [if_pos hh]; rfl
    · rw [if_neg hh]; rfl
  | .n1 h m => by rw [kS, Src.tree, ← kS_t m]; rfl
  | .n2 h m n => by rw [kS, Src.tree, ← kS_t m, ← kS_t n]; rfl
theorem kS_sz : ∀ m : Src, (kS m).sz = m.size
  | .v s => rfl
  | .nb h s m => by
    have := kS_sz m
    rw [kS, Src.size]
    by_cases hh : h = throwB
    · rw [if_pos hh]
      show 1 + szG [kAtom s, kS m] = _
      simp only [szG]
      rw [show (kAtom s).sz = 1 from rfl]
      omega
    · rw [if_neg hh]
      show 2 + (kS m).sz = _
      omega
  | .n1 h m => by
    have := kS_sz m
    rw [kS, Src.size]
    show 1 + szG [kS m] = _
    simp only [szG]; omega
  | .n2 h m n => by
    have := kS_sz m
    have := kS_sz n
    rw [kS, Src.size]
    show 1 + szG [kS m, kS n] = _
    simp only [szG]; omega

def notIn (bound : List Bs) (l : List Bs) : List Bs := l.filter fun x => decide (x ∉ bound)
theorem notIn_append (bound a b : List Bs) : notIn bound (a ++ b) = notIn bound a ++ notIn bound b := by simp [notIn]
theorem notIn_minus (bound : List Bs) (s : Bs) (l : List Bs) : notIn (bound ++ [s]) l = notIn bound (minus l s) := by
  unfold notIn minus
  rw [List.filter_filter]
  apply List.filter_congr
  intro x _
  by_cases h1 : x ∈ bound <;> by_cases h2 : x = s <;> simp [h1, h2]
theorem notIn_cons (bound : List Bs) (s : Bs) (l acc : List Bs) : (notIn bound (s :: l)).foldl addN acc = (notIn bound l).foldl addN (if s ∈ bound then acc else addN acc s) := by
  by_cases h : s ∈ bound
  · simp [notIn, h]
  · simp [notIn, h]
theorem kS_fr : ∀ (m : Src) (bound acc : List Bs), (kS m).fr bound acc = (notIn bound m.uses).foldl addN acc
  | .v s, bound, acc => by
    rw [Src.uses, notIn_cons]
    rfl
  | .nb h s m, bound, acc => by
    rw [kS, Src.uses]
    by_cases hh : h = throwB
    · rw [if_pos hh, if_pos hh, notIn_cons, ← kS_fr m]; rfl
    · rw [if_neg hh, if_neg hh]
      show (kS m).fr (bound ++ [s]) acc = _
      rw [kS_fr m, notIn_minus]
  | .n1 h m, bound, acc => by
    rw [kS, Src.uses, ← kS_fr m]; rfl
  | .n2 h m n, bound, acc => by
    rw [kS, Src.uses, notIn_append, List.foldl_append, ← kS_fr m, ← kS_fr n]; rfl
theorem kS_top (m : Src) : (kS m).fr [] [] = m.uses.foldl addN [] := by
  rw [kS_fr]
  congr 1
  unfold notIn
  rw [List.filter_eq_self]
  intro x _
  simp

theorem lg_kList (h : Bs) (e1 : (h == [108, 97, 109]) = false) (e2 : (h == [99, 97, 116, 99, 104]) = false) (ks : List Kd) (hks : 1 ≤ ks.length ∧ ks.length ≤ 2) (H : ∀ q ∈ ks, Hid (LG q)) : LG (kList h ks) := by
  intro base bb bound acc Ab cb A c w D a q n m ht hD hownb hneb hown hbase hlb hla
  have e : (kList h ks).sz = 1 + szG ks := rfl
  exact lg_list h e1 e2 ks hks H base bb bound acc Ab cb A c w D a q n m ht hD hownb hneb hown hbase (by omega) (by omega)
theorem kS_any : ∀ {m : Src}, m.ok = true → LG (kS m)
  | .v s, _ => lg_atom s
  | .nb h s m, hok => by
    rw [Src.ok, Bool.and_eq_true, Bool.and_eq_true] at hok
    have ih := Lib.hid (kS_any hok.2)
    have hh := hok.1.1
    simp only [isNb, Bool.or_eq_true, beq_iff_eq] at hh
    rw [kS]
    rcases hh with (rfl | rfl) | rfl
    · rw [if_neg (by decide)]; exact lg_bind lamB (.inl rfl) s (kS m) ih
    · rw [if_neg (by decide)]; exact lg_bind catchB (.inr rfl) s (kS m) ih
    · rw [if_pos rfl]
      exact lg_kList throwB rfl rfl _ (by simp) (fun q hq => by simp at hq; rcases hq with rfl | rfl; exact Lib.hid (lg_atom s); exact ih)
  | .n1 h m, hok => by
    rw [Src.ok, Bool.and_eq_true] at hok
    have ih := Lib.hid (kS_any hok.2)
    have hh := hok.1
    simp only [h1B, Bool.or_eq_true, beq_iff_eq] at hh
    rw [kS]
    rcases hh with rfl | rfl
    all_goals exact lg_kList _ rfl rfl _ (by simp) (fun q hq => by simp at hq; subst hq; exact ih)
  | .n2 h m n, hok => by
    rw [Src.ok, Bool.and_eq_true, Bool.and_eq_true] at hok
    have ih := Lib.hid (kS_any hok.1.2)
    have ih2 := Lib.hid (kS_any hok.2)
    have hh := hok.1.1
    simp only [h2B, Bool.or_eq_true, beq_iff_eq] at hh
    rw [kS]
    rcases hh with rfl | rfl
    all_goals exact lg_kList _ rfl rfl _ (by simp) (fun q hq => by simp at hq; rcases hq with rfl | rfl; exact ih; exact ih2)

def srcFreeO : Option Src → List ByteArray
  | none => []
  | some m => (m.uses.foldl addN []).map bs'

set_option maxRecDepth 100000 in
theorem implSF_any (s : ByteArray) (w : World) (hg0 : w.cell? ⟨0, 0, none⟩ = some (.iface 134 (.agg #[.pointer (some ⟨2, 67, none⟩)]))) : Calls Tryz.prog 6 #[.string s] w (SRet (srcFreeO (readSrc s.data.toList)) (readSrc s.data.toList).isSome w) := by
  have hr := Lib.hid (readSource_any s w hg0)
  clear hg0
  cases ho : readSrc s.data.toList with
  | none =>
    rw [ho, rsV_none] at hr
    clear ho
    go_enter Tryz.func6, Tryz.ntmps6
    go_wp2_with fail
    refine Calls.mono hr.out ?_
    rintro e w1 ⟨rfl, hb1⟩
    go_wp2_with fail
    go_ret2
    exact ⟨none, 0, rfl, World.ownsRow_nil _ _ _ _, hb1⟩
  | some m =>
    rw [ho, rsV_some] at hr
    obtain ⟨hok, h80, -⟩ := readSrc_ok ho
    have hU := Lib.hid (uss_any hok (by omega))
    have hul := m.uses_len
    have hun := Lib.hid (Src.uses_name hok)
    have hfl := foldl_len m.uses []
    have hfn := Lib.hid (show ∀ x ∈ m.uses.foldl addN [], isName x = true from fun x hx => by
      rw [foldl_mem] at hx
      rcases hx with hx | hx
      · cases hx
      · exact Src.uses_name hok x hx)
    have hgoal := Lib.hid (show srcFreeO (some m) = (m.uses.foldl addN []).map bs' from rfl)
    unfold USS at hU
    clear ho hok
    generalize sv m = x at *
    generalize sty m = t at *
    generalize m.uses = l at *
    go_enter Tryz.func6, Tryz.ntmps6
    go_wp2_with fail
    refine Calls.mono hr.out ?_
    rintro e w1 ⟨rfl, hb1⟩
    go_wp2_with fail
    refine Calls.mono (hU.out _) ?_
    rintro e w2 ⟨A2, c2, rfl, own2, hb2⟩
    have r2 := Lib.hid (RowN.of_own own2)
    have hb02 := Lib.hid (below_step hb1 (Nat.le_refl _) hb2)
    clear own2 hb1 hb2
    go_wp2_with fail
    refine Calls.mono (eachOnce_any A2 _ c2 l (fun x hx => isName_ne (hun.out x hx)) (by omega) _ r2.out) ?_
    rintro e w3 ⟨A3, c3, rfl, own3, hb3⟩
    have r3 := Lib.hid (RowN.of_own own3)
    have hb03 := Lib.hid (below_step hb02.out (Nat.le_refl _) hb3)
    clear own3 hb3
    go_wp2_with fail
    refine Calls.mono (nameTexts_any A3 _ c3 (l.foldl addN []) hfn.out (by simp at hfl; omega) _ r3.out) ?_
    rintro e w4 ⟨A4, c4, rfl, own4, hb4⟩
    have hfin : Hid (SRet (srcFreeO (some m)) true w (.returned (.tuple #[.slice A4 (l.foldl addN []).length c4, .bool true])) w4) := by
      rw [hgoal.out]
      have hl : ((l.foldl addN []).map bs').length = (l.foldl addN []).length := by simp
      refine ⟨A4, c4, by rw [hl], by rw [hl]; exact World.ownsRow.mono own4 hb03.out.size, below_step hb03.out (Nat.le_refl _) hb4⟩
    clear own4 hb4
    go_wp2_with fail
    go_ret2
    exact hfin.out

set_option maxRecDepth 100000 in
theorem specSF_any (s : ByteArray) (w : World) : Calls Tryz.prog 7 #[.string s] w (SRet (srcFreeO (readSrc s.data.toList)) (readSrc s.data.toList).isSome w) := by
  generalize hz : readSrc s.data.toList = o
  have hz' := Lib.hid hz
  clear hz
  go_enter Tryz.func7, Tryz.ntmps7
  go_wp2_with fail
  refine Calls.mono (l6sRead_any s _) ?_
  rintro e w1 ⟨hb1, hp⟩
  have hb1' := Lib.hid hb1
  have hs1 := hb1.size
  rcases hp with ⟨p, a, A, n, c, hrd, rfl, htc0⟩ | ⟨a, A, n, c, hrd, rfl⟩
  · obtain rfl : some p = o := hrd.symm.trans hz'.out
    have hok := (readSrc_ok hrd).1
    have h5 := (readSrc_ok hrd).2.1
    have hLG := kS_any hok
    have hsz : (kS p).sz = p.size := kS_sz p
    have htc : TC w1 (New w.heap.size w1) (kS p).t a A n c := by rw [kS_t]; exact htc0
    have hgoal := Lib.hid (show srcFreeO (some p) = ((kS p).fr [] []).map bs' from by rw [kS_top]; rfl)
    have htc' := Lib.hid htc
    have hcall := fun W (hW : W = ((w1.alloc (.cells #[.string a, .slice A n c] 45)).alloc (.cells #[] 9)).alloc (.cells #[] 9)) =>
      hLG w.heap.size w.heap.size [] [] (some ⟨w1.heap.size + 1, 0, none⟩) 0 (some ⟨w1.heap.size + 2, 0, none⟩) 0 W _ a A n c
        (by subst hW; exact htc.below ((((Below.refl _ _).alloc (Nat.le_refl _) _).alloc (by simp) _).alloc (by simp; omega) _) (fun g hg => hg.2))
        (by subst hW; exact fun g hg => ⟨by have := hg.2; simp; omega, fun e => by have := hg.2; simp [Value.ownBlock] at e; omega⟩)
        (by
          subst hW
          have h := (own_empty (w1.alloc (.cells #[.string a, .slice A n c] 45)) w.heap.size (by simp; omega) 9).alloc (.cells #[] 9)
          simpa using h)
        (fun k hk e => by simp [Value.ownBlock] at hk e; omega)
        (by
          subst hW
          have h := own_empty ((w1.alloc (.cells #[.string a, .slice A n c] 45)).alloc (.cells #[] 9)) w.heap.size (by simp; omega) 9
          simpa using h)
        (by subst hW; simp; omega) (by simp; omega) (by simp; omega)
    have hcall' := Lib.hid (hcall _ rfl)
    have hb2 := Lib.hid (bb_alloc (bb_alloc (bb_alloc hb1 (.cells #[.string a, .slice A n c] 45)) (.cells #[] 9)) (.cells #[] 9))
    clear hb1 hrd htc htc0 hcall hz' hLG hsz
    go_wp2_with fail
    refine hcall'.out.mono ?_
    rintro e w2 ⟨A2, c2, rfl, own, gr, mv⟩
    have hfin : Hid (SRet (srcFreeO (some p)) true w (.returned (.tuple #[.slice A2 ((kS p).fr [] []).length c2, .bool true])) w2) := by
      rw [hgoal.out]
      have hl : (((kS p).fr [] []).map bs').length = ((kS p).fr [] []).length := by simp
      refine ⟨A2, c2, by rw [hl], by rw [hl]; exact own, hb2.out.grown gr (by simp; omega) (fun j hj => by simp [Value.ownBlock] at hj; omega)⟩
    clear own gr mv
    go_wp2_with fail
    go_ret2
    exact hfin.out
  · obtain rfl : none = o := hrd.symm.trans hz'.out
    have hfin : Hid (SRet (srcFreeO none) false w (.returned (.tuple #[.slice (some ⟨w1.heap.size + 1, 0, none⟩) 0 0, .bool false])) ((w1.alloc (.cells #[.string a, .slice A n c] 45)).alloc (.cells #[] 9))) := by
      refine ⟨_, _, rfl, ?_, (hb1'.out.alloc hs1 _).alloc (by simp; omega) _⟩
      have h := own_empty (w1.alloc (.cells #[.string a, .slice A n c] 45)) w.heap.size (by simp; omega) 9
      rw [show (w1.alloc (.cells #[.string a, .slice A n c] 45)).heap.size = w1.heap.size + 1 from by simp] at h
      exact h
    clear hb1 hrd hz'
    go_wp2_with fail
    go_ret2
    exact hfin.out

end Go.Proofs.YtchkmdagbjbcjaaGreatDoor
