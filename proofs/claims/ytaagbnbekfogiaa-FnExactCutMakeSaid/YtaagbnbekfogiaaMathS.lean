/- Steps by value and by name, of the program and of the model: plain mathematics. -/
import Derived.Test.YtaagbnbekfogiaaMathQ
namespace Go.Proofs.Ytaagbnbekfogiaa
set_option linter.unusedVariables false

/-- A cut of a first and a second side. -/
def mkcut (v : Bool) (a b : P) : P := if v then .f2 cutB a b else .f2 cutB b a
/-- What a head is called on the value's side. -/
def sideH (v : Bool) (h : Bs) : Bs := if v then h else dword h
def isval (v : Bool) (p : P) : Bool := if v then p.val else p.cov
def meet (v : Bool) : P → P → Option P
  | .f2 h p q, .f1 h' l => if sideH v h = pairB ∧ sideH v h' = fstB then some (mkcut v p l) else if sideH v h = pairB ∧ sideH v h' = sndB then some (mkcut v q l) else none
  | .f1 h p, .f2 h' l r => if sideH v h = inlB ∧ sideH v h' = caseB then some (mkcut v p l) else if sideH v h = inrB ∧ sideH v h' = caseB then some (mkcut v p r) else none
  | .f1 h l, .f1 h' n => if sideH v h = notB ∧ sideH v h' = negB then some (mkcut v n l) else none
  | _, _ => none
def rest (v : Bool) (f : P) : P → Option P
  | .bd x s => some (s.put x f)
  | .nm s => meet v f (.nm s)
  | .f1 h p => meet v f (.f1 h p)
  | .f2 h p q => meet v f (.f2 h p q)
def newN (v : Bool) (f g : P) : Bs := cname v (nxt (f.uses ++ g.uses) v 0)
def laterAt (v : Bool) (x : Bs) : P → P → Option P
  | .f1 h p, g => some (mkcut v p (.bd x (mkcut v (.f1 h (.nm x)) g)))
  | .f2 h p q, g => if isval v p then some (mkcut v q (.bd x (mkcut v (.f2 h p (.nm x)) g))) else some (mkcut v p (.bd x (mkcut v (.f2 h (.nm x) q) g)))
  | _, _ => none
def later (v : Bool) (f g : P) : Option P := laterAt v (newN v f g) f g
/-- The step of a kind, of the first and the second side; v: by value. -/
def stepG (v : Bool) : P → P → Option P
  | .bd a s, g => some (s.put a g)
  | .nm s, g => rest v (.nm s) g
  | .f1 h p, g => if isval v (.f1 h p) then rest v (.f1 h p) g else later v (.f1 h p) g
  | .f2 h p q, g => if isval v (.f2 h p q) then rest v (.f2 h p q) g else later v (.f2 h p q) g
def stepC (v : Bool) (m k : P) : Option P := if v then stepG true m k else stepG false k m
def stepP (v : Bool) : P → Option P
  | .f2 h m k => if h = cutB then stepC v m k else none
  | _ => none

/-- The model's step: none for no step, some none if the result is too large. -/
def sput (t : P) (n : Bs) (q : P) : Option P := if t.size + t.count n * (q.size - 1) ≤ 500 then some (t.ssub n q) else none
def srest (m : P) : P → Option (Option P)
  | .bd x s => some (sput s x m)
  | .nm s => (meet true m (.nm s)).map some
  | .f1 h p => (meet true m (.f1 h p)).map some
  | .f2 h p q => (meet true m (.f2 h p q)).map some
def slater (m k : P) : Option P := laterAt true (cname true (nxt (P.f2 cutB m k).freeL true 0)) m k
def sstep : P → P → Option (Option P)
  | .bd a s, k => some (sput s a k)
  | .nm s, k => srest (.nm s) k
  | .f1 h p, k => if (P.f1 h p).val then srest (.f1 h p) k else (slater (.f1 h p) k).map some
  | .f2 h p q, k => if (P.f2 h p q).val then srest (.f2 h p q) k else (slater (.f2 h p q) k).map some
def sany (v : Bool) (m k : P) : Option (Option P) := if v then sstep m k else (sstep k.dual m.dual).map (Option.map P.dual)

/-- Both steps are the same but for bound names, if the result is not too large. -/
def SRel : Option P → Option (Option P) → Prop
  | none, none => True
  | some q, some none => 500 < q.size
  | some q, some (some q') => q'.db [] = q.db [] ∧ q'.ok = true ∧ q'.kind = .s
  | _, _ => False

/-- A term m and a coterm k. -/
structure MK (m k : P) : Prop where
  mok : m.ok = true
  kok : k.ok = true
  mt : m.kind = .t
  kc : k.kind = .c
  sz : 1 + m.size + k.size ≤ 500

theorem cut_ok {m k : P} (hm : m.ok = true) (hk : k.ok = true) (h1 : m.kind = .t) (h2 : k.kind = .c) : (P.f2 cutB m k).ok = true ∧ (P.f2 cutB m k).kind = .s := by
  have hd : hd2 cutB = some (.s, .t, .c) := by decide
  have hkd : (P.f2 cutB m k).kind = .s := by rw [P.kind, hd]
  refine ⟨?_, hkd⟩
  rw [P.ok, hm, hk, hkd, h1, h2]; decide
theorem MK.of {m k : P} (h : (P.f2 cutB m k).ok = true) (hs : (P.f2 cutB m k).size ≤ 500) : MK m k := by
  rw [P.ok, Bool.and_eq_true, Bool.and_eq_true, decide_eq_true_iff] at h
  obtain ⟨-, h1, h2⟩ := cut_hd2 h.2
  exact ⟨h.1.1, h.1.2, h1, h2, hs⟩
theorem MK.dual {m k : P} (h : MK m k) : MK k.dual m.dual :=
  ⟨P.dual_ok h.kok, P.dual_ok h.mok, by rw [P.dual_kind h.kok, h.kc]; rfl, by rw [P.dual_kind h.mok, h.mt]; rfl, by rw [P.dual_size, P.dual_size]; have := h.sz; omega⟩

theorem put_rel {s : P} {n : Bs} {q : P} (hs : s.ok = true) (hss : s.kind = .s) (hq : q.ok = true) (hk : q.kind = (P.nm n).kind) (hz : s.size + q.size ≤ 500) : SRel (some (s.put n q)) (some (sput s n q)) := by
  unfold sput
  split
  · obtain ⟨h1, h2⟩ := ssub_ok hs hq hk hz
    exact ⟨P.ssub_put s n q, h1, h2.trans hss⟩
  · show 500 < (s.put n q).size
    rw [P.put_size]; omega
theorem bd_parts {s : Bs} {b : P} (h : (P.bd s b).ok = true) : isName s = true ∧ b.ok = true ∧ b.kind = .s := by
  rw [P.ok, Bool.and_eq_true, Bool.and_eq_true, decide_eq_true_iff] at h
  exact ⟨h.1.1, h.1.2, h.2⟩
theorem nm_kind_t {s : Bs} {b : P} (h : (P.bd s b).kind = .t) : (P.nm s).kind = .c := by
  simp only [P.kind] at h ⊢
  cases hf : firstIs varB s
  · rfl
  · rw [hf] at h; cases h
theorem nm_kind_c {s : Bs} {b : P} (h : (P.bd s b).kind = .c) : (P.nm s).kind = .t := by
  simp only [P.kind] at h ⊢
  cases hf : firstIs varB s
  · rw [hf] at h; cases h
  · rfl

/-- What meets gives a statement. -/
theorem meet_true {m k q : P} (h : MK m k) (e : meet true m k = some q) : q.ok = true ∧ q.kind = .s ∧ q.size ≤ m.size + k.size := by
  obtain ⟨h1, h2, h3, h4, h5⟩ := h
  match m, k, e, h1, h2, h3, h4 with
  | .f2 x p r, .f1 y l, e, h1, h2, h3, h4 =>
    rw [P.ok, Bool.and_eq_true, Bool.and_eq_true, decide_eq_true_iff, h3] at h1
    rw [P.ok, Bool.and_eq_true, decide_eq_true_iff, h4] at h2
    simp only [meet, sideH, if_true, mkcut] at e
    split at e
    · rename_i hh
      injection e with e; subst e
      have e1 := h1.2; have e2 := h2.2
      rw [hh.1, show hd2 pairB = some (.t, .t, .t) from by decide] at e1
      rw [hh.2, show hd1 fstB = some (.c, .c) from by decide] at e2
      injection e1 with e1; injection e1 with _ e1; injection e1 with e1 e1'
      injection e2 with e2; injection e2 with _ e2
      obtain ⟨c1, c2⟩ := cut_ok h1.1.1 h2.1 e1.symm e2.symm
      exact ⟨c1, c2, by simp only [P.size]; omega⟩
    · split at e
      · rename_i hh
        injection e with e; subst e
        have e1 := h1.2; have e2 := h2.2
        rw [hh.1, show hd2 pairB = some (.t, .t, .t) from by decide] at e1
        rw [hh.2, show hd1 sndB = some (.c, .c) from by decide] at e2
        injection e1 with e1; injection e1 with _ e1; injection e1 with e1 e1'
        injection e2 with e2; injection e2 with _ e2
        obtain ⟨c1, c2⟩ := cut_ok h1.1.2 h2.1 e1'.symm e2.symm
        exact ⟨c1, c2, by simp only [P.size]; omega⟩
      · cases e
  | .f1 x p, .f2 y l r, e, h1, h2, h3, h4 =>
    rw [P.ok, Bool.and_eq_true, decide_eq_true_iff, h3] at h1
    rw [P.ok, Bool.and_eq_true, Bool.and_eq_true, decide_eq_true_iff, h4] at h2
    simp only [meet, sideH, if_true, mkcut] at e
    split at e
    · rename_i hh
      injection e with e; subst e
      have e1 := h1.2; have e2 := h2.2
      rw [hh.1, show hd1 inlB = some (.t, .t) from by decide] at e1
      rw [hh.2, show hd2 caseB = some (.c, .c, .c) from by decide] at e2
      injection e1 with e1; injection e1 with _ e1
      injection e2 with e2; injection e2 with _ e2; injection e2 with e2 e2'
      obtain ⟨c1, c2⟩ := cut_ok h1.1 h2.1.1 e1.symm e2.symm
      exact ⟨c1, c2, by simp only [P.size]; omega⟩
    · split at e
      · rename_i hh
        injection e with e; subst e
        have e1 := h1.2; have e2 := h2.2
        rw [hh.1, show hd1 inrB = some (.t, .t) from by decide] at e1
        rw [hh.2, show hd2 caseB = some (.c, .c, .c) from by decide] at e2
        injection e1 with e1; injection e1 with _ e1
        injection e2 with e2; injection e2 with _ e2; injection e2 with e2 e2'
        obtain ⟨c1, c2⟩ := cut_ok h1.1 h2.1.2 e1.symm e2'.symm
        exact ⟨c1, c2, by simp only [P.size]; omega⟩
      · cases e
  | .f1 x l, .f1 y n, e, h1, h2, h3, h4 =>
    rw [P.ok, Bool.and_eq_true, decide_eq_true_iff, h3] at h1
    rw [P.ok, Bool.and_eq_true, decide_eq_true_iff, h4] at h2
    simp only [meet, sideH, if_true, mkcut] at e
    split at e
    · rename_i hh
      injection e with e; subst e
      have e1 := h1.2; have e2 := h2.2
      rw [hh.1, show hd1 notB = some (.t, .c) from by decide] at e1
      rw [hh.2, show hd1 negB = some (.c, .t) from by decide] at e2
      injection e1 with e1; injection e1 with _ e1
      injection e2 with e2; injection e2 with _ e2
      obtain ⟨c1, c2⟩ := cut_ok h2.1 h1.1 e2.symm e1.symm
      exact ⟨c1, c2, by simp only [P.size]; omega⟩
    · cases e
  | .nm _, _, e, _, _, _, _ => simp [meet] at e
  | .bd _ _, _, e, _, _, _, _ => simp [meet] at e
  | .f2 _ _ _, .nm _, e, _, _, _, _ => simp [meet] at e
  | .f2 _ _ _, .bd _ _, e, _, _, _, _ => simp [meet] at e
  | .f2 _ _ _, .f2 _ _ _, e, _, _, _, _ => simp [meet] at e
  | .f1 _ _, .nm _, e, _, _, _, _ => simp [meet] at e
  | .f1 _ _, .bd _ _, e, _, _, _, _ => simp [meet] at e

theorem newN_name {v : Bool} {f g : P} (h : f.size + g.size ≤ 500) : isName (newN v f g) = true := by
  have h1 := f.uses_len
  have h2 := g.uses_len
  have h3 := (nxt_pot (free := f.uses ++ g.uses) (v := v) (a := 0) (c := 0) (Nat.zero_le _)).1
  exact cname_name (by rw [List.length_append] at h3; omega)
theorem f1_ok {h : Bs} {p q : P} (hok : (P.f1 h p).ok = true) (hq : q.ok = true) (hk : q.kind = p.kind) : (P.f1 h q).ok = true ∧ (P.f1 h q).kind = (P.f1 h p).kind := by
  rw [P.ok, Bool.and_eq_true, decide_eq_true_iff] at hok
  have : (P.f1 h q).kind = (P.f1 h p).kind := rfl
  refine ⟨?_, this⟩
  rw [P.ok, hq, this, hk, hok.2]; simp
theorem f2_ok {h : Bs} {p q p' q' : P} (hok : (P.f2 h p q).ok = true) (hp : p'.ok = true) (hq : q'.ok = true) (hpk : p'.kind = p.kind) (hqk : q'.kind = q.kind) : (P.f2 h p' q').ok = true ∧ (P.f2 h p' q').kind = (P.f2 h p q).kind := by
  rw [P.ok, Bool.and_eq_true, Bool.and_eq_true, decide_eq_true_iff] at hok
  have : (P.f2 h p' q').kind = (P.f2 h p q).kind := rfl
  refine ⟨?_, this⟩
  rw [P.ok, hp, hq, this, hpk, hqk, hok.2]; simp
/-- A part that is a value no sooner than it is taken out is a term. -/
theorem part_t1 {h : Bs} {p : P} (hok : (P.f1 h p).ok = true) (hk : (P.f1 h p).kind = .t) (hv : (P.f1 h p).val = false) : p.ok = true ∧ p.kind = .t := by
  rw [P.ok, Bool.and_eq_true, decide_eq_true_iff, hk] at hok
  refine ⟨hok.1, ?_⟩
  have e := hok.2
  unfold hd1 at e
  rw [P.val] at hv
  repeat' split at e
  all_goals first
    | (rename_i hh; subst hh; injection e with e; injection e with e1 e2; first | exact e2.symm | (cases e1; done) | (exfalso; revert hv; simp [inlB, inrB, notB]; done))
    | (cases e; done)
theorem part_t2 {h : Bs} {p q : P} (hok : (P.f2 h p q).ok = true) (hk : (P.f2 h p q).kind = .t) : p.ok = true ∧ q.ok = true ∧ p.kind = .t ∧ q.kind = .t := by
  rw [P.ok, Bool.and_eq_true, Bool.and_eq_true, decide_eq_true_iff, hk] at hok
  have e := hok.2
  unfold hd2 at e
  repeat' split at e
  all_goals first
    | (rename_i hh; subst hh; injection e with e; injection e with e1 e2; injection e2 with e2 e3; first | exact ⟨hok.1.1, hok.1.2, e2.symm, e3.symm⟩ | (cases e1; done))
    | (cases e; done)
theorem cname_kind (v : Bool) (i : Nat) : (P.nm (cname v i)).kind = if v then .t else .c := by rw [P.kind, cname_first]

/-- What is taken out by value. -/
theorem laterAt_true {m k q : P} {i : Nat} (h : MK m k) (hi : i < 1000) (hv : m.val = false) (e : laterAt true (cname true i) m k = some q) : q.ok = true ∧ q.kind = .s ∧ q.size ≤ m.size + k.size + 6 := by
  obtain ⟨h1, h2, h3, h4, h5⟩ := h
  have hn : isName (cname true i) = true := cname_name hi
  have hnk : (P.nm (cname true i)).kind = .t := cname_kind true i
  have hbk : ∀ b : P, (P.bd (cname true i) b).kind = .c := fun b => by rw [P.kind, cname_first]; rfl
  have hbo : ∀ b : P, b.ok = true → b.kind = .s → (P.bd (cname true i) b).ok = true := fun b hb hk => by rw [P.ok, hn, hb, hk]; rfl
  match m, e, h1, h3, hv with
  | .f1 x p, e, h1, h3, hv =>
    simp only [laterAt, mkcut, if_true] at e
    injection e with e; subst e
    obtain ⟨p1, p2⟩ := part_t1 h1 h3 hv
    obtain ⟨f1, f2⟩ := f1_ok (q := .nm (cname true i)) h1 hn (hnk.trans p2.symm)
    obtain ⟨c1, c2⟩ := cut_ok f1 h2 (f2.trans h3) h4
    obtain ⟨d1, d2⟩ := cut_ok p1 (hbo _ c1 c2) p2 (hbk _)
    refine ⟨d1, d2, ?_⟩
    simp only [P.size]; omega
  | .f2 x p r, e, h1, h3, hv =>
    simp only [laterAt, mkcut, if_true] at e
    obtain ⟨p1, p2, p3, p4⟩ := part_t2 h1 h3
    split at e
    · injection e with e; subst e
      obtain ⟨f1, f2⟩ := f2_ok (p' := p) (q' := .nm (cname true i)) h1 p1 hn rfl (hnk.trans p4.symm)
      obtain ⟨c1, c2⟩ := cut_ok f1 h2 (f2.trans h3) h4
      obtain ⟨d1, d2⟩ := cut_ok p2 (hbo _ c1 c2) p4 (hbk _)
      refine ⟨d1, d2, ?_⟩
      simp only [P.size]; omega
    · injection e with e; subst e
      obtain ⟨f1, f2⟩ := f2_ok (p' := .nm (cname true i)) (q' := r) h1 hn p2 (hnk.trans p3.symm) rfl
      obtain ⟨c1, c2⟩ := cut_ok f1 h2 (f2.trans h3) h4
      obtain ⟨d1, d2⟩ := cut_ok p1 (hbo _ c1 c2) p3 (hbk _)
      refine ⟨d1, d2, ?_⟩
      simp only [P.size]; omega
  | .nm _, e, _, _, _ => simp [laterAt] at e
  | .bd _ _, e, _, _, _ => simp [laterAt] at e

theorem newN_free (m k : P) : cname true (nxt (P.f2 cutB m k).freeL true 0) = newN true m k := by
  unfold newN
  have hs : ∀ s, s ∈ (P.f2 cutB m k).freeL ↔ s ∈ m.uses ++ k.uses := fun s => by rw [P.freeL_mem, P.uses]
  rw [nxt_same hs]

theorem meet_rel {m k : P} (h : MK m k) : SRel (meet true m k) ((meet true m k).map some) := by
  cases e : meet true m k with
  | none => exact True.intro
  | some q => obtain ⟨h1, h2, -⟩ := meet_true h e; exact ⟨rfl, h1, h2⟩
theorem rest_rel {m k : P} (h : MK m k) : SRel (rest true m k) (srest m k) := by
  cases k with
  | bd x s =>
    obtain ⟨b1, b2, b3⟩ := bd_parts h.kok
    have hs := h.sz
    rw [P.size] at hs
    exact put_rel b2 b3 h.mok (h.mt.trans (nm_kind_c h.kc).symm) (by omega)
  | nm s => exact meet_rel h
  | f1 x p => exact meet_rel h
  | f2 x p q => exact meet_rel h
theorem later_rel {m k : P} (h : MK m k) (hv : m.val = false) : SRel (later true m k) ((slater m k).map some) := by
  unfold later slater
  rw [newN_free]
  cases e : laterAt true (newN true m k) m k with
  | none => exact True.intro
  | some q =>
    have h1 := m.uses_len
    have h2 := k.uses_len
    have h3 := (nxt_pot (free := m.uses ++ k.uses) (v := true) (a := 0) (c := 0) (Nat.zero_le _)).1
    have hs := h.sz
    obtain ⟨h1, h2, -⟩ := laterAt_true h (by rw [List.length_append] at h3; omega) hv e
    exact ⟨rfl, h1, h2⟩
theorem step_rel_t {m k : P} (h : MK m k) : SRel (stepG true m k) (sstep m k) := by
  cases m with
  | bd a s =>
    obtain ⟨b1, b2, b3⟩ := bd_parts h.mok
    have hs := h.sz
    rw [P.size] at hs
    exact put_rel b2 b3 h.kok (h.kc.trans (nm_kind_t h.mt).symm) (by omega)
  | nm s => exact rest_rel h
  | f1 x p =>
    rw [stepG, sstep, show isval true (.f1 x p) = (P.f1 x p).val from rfl]
    cases hv : (P.f1 x p).val
    · rw [if_neg (by decide), if_neg (by decide)]; exact later_rel h hv
    · rw [if_pos rfl, if_pos rfl]; exact rest_rel h
  | f2 x p q =>
    rw [stepG, sstep, show isval true (.f2 x p q) = (P.f2 x p q).val from rfl]
    cases hv : (P.f2 x p q).val
    · rw [if_neg (by decide), if_neg (by decide)]; exact later_rel h hv
    · rw [if_pos rfl, if_pos rfl]; exact rest_rel h

end Go.Proofs.Ytaagbnbekfogiaa
