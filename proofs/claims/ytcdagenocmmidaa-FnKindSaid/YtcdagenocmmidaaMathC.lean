/- Canonical programs, as plain mathematics: names are given out in the order of the text; fewer than a hundred of them. -/
import Derived.Test.YtcdagenocmmidaaMathU
namespace Go.Proofs.Ytcdagenocmmidaa

/-- Decimals of a number below a hundred. -/
def dec2 (i : Nat) : Bs := if i < 10 then [UInt8.ofNat (48 + i)] else [UInt8.ofNat (48 + i / 10), UInt8.ofNat (48 + i % 10)]
def cname (v : Bool) (i : Nat) : Bs := (if v then 120 else 107) :: dec2 i

theorem dec2_inj : ∀ i j : Fin 100, dec2 i.val = dec2 j.val → i = j := by decide +kernel
theorem dec2_dig : ∀ i : Fin 100, (dec2 i.val).all digB = true ∧ (dec2 i.val).length ≤ 2 := by decide +kernel
theorem cname_inj {v : Bool} {i j : Nat} (hi : i < 100) (hj : j < 100) (h : cname v i = cname v j) : i = j := by
  unfold cname at h
  injection h with _ h
  have := dec2_inj ⟨i, hi⟩ ⟨j, hj⟩ h
  exact congrArg Fin.val this
theorem cname_name {v : Bool} {i : Nat} (hi : i < 100) : isName (cname v i) = true ∧ firstIs varB (cname v i) = v := by
  obtain ⟨h1, h2⟩ := dec2_dig ⟨i, hi⟩
  simp only at h1 h2
  cases v
  · refine ⟨?_, rfl⟩
    simp [isName, isVar, isCov, nameB, cname, h1, show (dec2 i).length ≤ 3 from by omega, covB]
  · refine ⟨?_, rfl⟩
    simp [isName, isVar, isCov, nameB, cname, h1, show (dec2 i).length ≤ 3 from by omega, varB]

structure St where
  x : Nat
  k : Nat
def St.get (s : St) (v : Bool) : Nat := if v then s.x else s.k
def St.put (s : St) (v : Bool) (i : Nat) : St := if v then ⟨i, s.k⟩ else ⟨s.x, i⟩
theorem St.get_same (s : St) (v : Bool) (i : Nat) : (s.put v i).get v = i := by cases v <;> rfl
theorem St.get_other (s : St) (v u : Bool) (i : Nat) (h : u ≠ v) : (s.put v i).get u = s.get u := by cases v <;> cases u <;> first | rfl | exact absurd rfl h

/-- The next index whose name is not free; f: at least so many are tried. -/
def nextI (free : List Bs) (v : Bool) : Nat → Nat → Nat
  | 0, i => i
  | f + 1, i => if cname v i ∈ free then nextI free v f (i + 1) else i

/-- How many indexes below c are free. -/
def cnt (free : List Bs) (v : Bool) : Nat → Nat
  | 0 => 0
  | c + 1 => cnt free v c + if cname v c ∈ free then 1 else 0
theorem cnt_minus {free : List Bs} {v : Bool} {m : Nat} (hm : m < 100) : ∀ c, c ≤ m → cnt (minus free (cname v m)) v c = cnt free v c
  | 0, _ => rfl
  | c + 1, h => by
    have hne : cname v c ≠ cname v m := fun e => by have := cname_inj (by omega) hm e; omega
    rw [cnt, cnt, cnt_minus hm c (by omega)]
    congr 1
    simp [mem_minus, hne]
theorem minus_lt {free : List Bs} {s : Bs} (h : s ∈ free) : (minus free s).length < free.length := by
  induction free with
  | nil => cases h
  | cons a l ih =>
    unfold minus at ih ⊢
    by_cases e : a = s
    · subst e
      have := List.length_filter_le (fun x => decide (x ≠ a)) l
      simp at this ⊢
      omega
    · have h' : s ∈ l := by rcases List.mem_cons.1 h with h | h; exact absurd h.symm e; exact h
      have := ih h'
      simp [e] at this ⊢
      omega
theorem cnt_le (v : Bool) : ∀ (c : Nat), c ≤ 100 → ∀ free : List Bs, cnt free v c ≤ free.length
  | 0, _, free => Nat.zero_le _
  | c + 1, h, free => by
    rw [cnt]
    by_cases hm : cname v c ∈ free
    · have h1 := cnt_le v c (by omega) (minus free (cname v c))
      rw [cnt_minus (by omega) c (Nat.le_refl _)] at h1
      have := minus_lt hm
      rw [if_pos hm]; omega
    · have := cnt_le v c (by omega) free
      rw [if_neg hm]; omega

/-- c indexes have been passed, a of them given out. -/
def Pot (free : List Bs) (v : Bool) (c a : Nat) : Prop := c ≤ a + cnt free v c
theorem pot_skip {free : List Bs} {v : Bool} {c a : Nat} (h : Pot free v c a) (hm : cname v c ∈ free) : Pot free v (c + 1) a := by
  unfold Pot at *; rw [cnt, if_pos hm]; omega
theorem pot_take {free : List Bs} {v : Bool} {c a : Nat} (h : Pot free v c a) (hm : cname v c ∉ free) : Pot free v (c + 1) (a + 1) := by
  unfold Pot at *; rw [cnt, if_neg hm]; omega
theorem pot_mono {free : List Bs} {v : Bool} {c a b : Nat} (h : Pot free v c a) (hab : a ≤ b) : Pot free v c b := by
  unfold Pot at *; omega
theorem pot_lt {free : List Bs} {v : Bool} {c a : Nat} (h : Pot free v c a) (hc : c ≤ 100) : c ≤ a + free.length := by
  have := cnt_le v c hc free
  unfold Pot at h; omega
theorem nextI_spec {free : List Bs} {v : Bool} {a : Nat} (ha : a + free.length ≤ 98) : ∀ f c, Pot free v c a → c ≤ 99 → free.length + a + 1 ≤ f + c →
    cname v (nextI free v f c) ∉ free ∧ nextI free v f c ≤ a + free.length ∧ Pot free v (nextI free v f c + 1) (a + 1) ∧ c ≤ nextI free v f c ∧ nextI free v f c < 100
  | 0, c, hp, hc, hf => by
    have := pot_lt hp (by omega)
    omega
  | f + 1, c, hp, hc, hf => by
    have h1 := pot_lt hp (by omega)
    rw [nextI]
    by_cases hm : cname v c ∈ free
    · rw [if_pos hm]
      have h2 := pot_skip hp hm
      obtain ⟨k1, k2, k3, k4, k5⟩ := nextI_spec ha f (c + 1) h2 (by omega) (by omega)
      exact ⟨k1, k2, k3, by omega, k5⟩
    · rw [if_neg hm]
      exact ⟨hm, h1, pot_take hp hm, Nat.le_refl _, by omega⟩

def lookB : List (Bs × Bs) → Bs → Bs
  | [], s => s
  | (o, n) :: sc, s => if o = s then n else lookB sc s

def P.ren (free : List Bs) : List (Bs × Bs) → P → St → P × St
  | sc, .nm s, st => (.nm (lookB sc s), st)
  | sc, .f1 h p, st => (.f1 h (p.ren free sc st).1, (p.ren free sc st).2)
  | sc, .f2 h p q, st => (.f2 h (p.ren free sc st).1 (q.ren free sc (p.ren free sc st).2).1, (q.ren free sc (p.ren free sc st).2).2)
  | sc, .bd s b, st =>
    let i := nextI free (firstIs varB s) 200 (st.get (firstIs varB s))
    let r := b.ren free ((s, cname (firstIs varB s) i) :: sc) (st.put (firstIs varB s) (i + 1))
    (.bd (cname (firstIs varB s) i) r.1, r.2)

def P.binders : P → Nat
  | .nm _ => 0
  | .f1 _ p => p.binders
  | .f2 _ p q => p.binders + q.binders
  | .bd _ b => 1 + b.binders
theorem P.binders_uses : ∀ p : P, p.binders + p.uses.length ≤ p.size
  | .nm s => by simp [P.binders, P.uses, P.size]
  | .f1 _ p => by have := p.binders_uses; rw [P.binders, P.uses, P.size]; omega
  | .f2 _ p q => by have := p.binders_uses; have := q.binders_uses; rw [P.binders, P.uses, P.size, List.length_append]; omega
  | .bd s b => by have := b.binders_uses; have := minus_len b.uses s; rw [P.binders, P.uses, P.size]; omega

def StOk (free : List Bs) (st : St) (a : Nat) : Prop := ∀ v, Pot free v (st.get v) a ∧ st.get v ≤ 99
theorem ren_st (free : List Bs) : ∀ (p : P) (sc : List (Bs × Bs)) (st : St) (a : Nat), StOk free st a → a + p.binders + free.length ≤ 98 → StOk free (p.ren free sc st).2 (a + p.binders)
  | .nm s, sc, st, a, h, hb => h
  | .f1 _ p, sc, st, a, h, hb => ren_st free p sc st a h hb
  | .f2 _ p q, sc, st, a, h, hb => by
    rw [P.binders] at hb
    have h1 := ren_st free p sc st a h (by omega)
    have h2 := ren_st free q sc _ _ h1 (by omega)
    rw [P.binders, ← Nat.add_assoc]
    exact h2
  | .bd s b, sc, st, a, h, hb => by
    rw [P.binders] at hb
    obtain ⟨hp, hc⟩ := h (firstIs varB s)
    obtain ⟨k1, k2, k3, k4, k5⟩ := nextI_spec (free := free) (v := firstIs varB s) (a := a) (by omega) 200 _ hp hc (by omega)
    have h1 : StOk free (st.put (firstIs varB s) (nextI free (firstIs varB s) 200 (st.get (firstIs varB s)) + 1)) (a + 1) := fun v => by
      by_cases e : v = firstIs varB s
      · subst e; rw [St.get_same]; exact ⟨k3, by omega⟩
      · rw [St.get_other _ _ _ _ e]; exact ⟨pot_mono (h v).1 (by omega), (h v).2⟩
    have h2 := ren_st free b ((s, cname (firstIs varB s) (nextI free (firstIs varB s) 200 (st.get (firstIs varB s)))) :: sc) _ (a + 1) h1 (by omega)
    rw [P.binders, ← Nat.add_assoc]
    exact h2

/-- A scope gives variables for variables, and covariables for covariables. -/
def ScOk (sc : List (Bs × Bs)) : Prop := ∀ o n, (o, n) ∈ sc → isName n = true ∧ firstIs varB n = firstIs varB o
theorem lookB_ok {sc : List (Bs × Bs)} (h : ScOk sc) {s : Bs} (hs : isName s = true) : isName (lookB sc s) = true ∧ firstIs varB (lookB sc s) = firstIs varB s := by
  induction sc with
  | nil => exact ⟨hs, rfl⟩
  | cons e sc ih =>
    obtain ⟨o, n⟩ := e
    rw [lookB]
    split
    · rename_i e; subst e; exact h o n (by simp)
    · exact ih (fun o n hm => h o n (List.mem_cons_of_mem _ hm))
theorem ren_ok (free : List Bs) : ∀ (p : P) (sc : List (Bs × Bs)) (st : St) (a : Nat), p.ok = true → ScOk sc → StOk free st a → a + p.binders + free.length ≤ 98 →
    (p.ren free sc st).1.ok = true ∧ (p.ren free sc st).1.kind = p.kind ∧ (p.ren free sc st).1.size = p.size ∧ (p.ren free sc st).1.nest = p.nest
  | .nm s, sc, st, a, hk, hsc, h, hb => by
    rw [P.ok] at hk
    obtain ⟨h1, h2⟩ := lookB_ok hsc hk
    rw [P.ren]
    refine ⟨h1, ?_, rfl, rfl⟩
    rw [P.kind, P.kind, h2]
  | .f1 x p, sc, st, a, hk, hsc, h, hb => by
    rw [P.binders] at hb
    have hk' := hk
    rw [P.ok, Bool.and_eq_true, decide_eq_true_iff] at hk
    obtain ⟨h1, h2, h3, h4⟩ := ren_ok free p sc st a hk.1 hsc h hb
    rw [P.ren]
    refine ⟨?_, rfl, by rw [P.size, P.size, h3], by rw [P.nest, P.nest, h4]⟩
    rw [P.ok, h1, h2, Bool.true_and, decide_eq_true_iff]
    exact hk.2
  | .f2 x p q, sc, st, a, hk, hsc, h, hb => by
    rw [P.binders] at hb
    rw [P.ok, Bool.and_eq_true, Bool.and_eq_true, decide_eq_true_iff] at hk
    obtain ⟨h1, h2, h3, h4⟩ := ren_ok free p sc st a hk.1.1 hsc h (by omega)
    have hst := ren_st free p sc st a h (by omega)
    obtain ⟨g1, g2, g3, g4⟩ := ren_ok free q sc _ _ hk.1.2 hsc hst (by omega)
    rw [P.ren]
    refine ⟨?_, rfl, by rw [P.size, P.size, h3, g3], by rw [P.nest, P.nest, h4, g4]⟩
    rw [P.ok, h1, g1, h2, g2, Bool.true_and, Bool.true_and, decide_eq_true_iff]
    exact hk.2
  | .bd s b, sc, st, a, hk, hsc, h, hb => by
    rw [P.binders] at hb
    rw [P.ok, Bool.and_eq_true, Bool.and_eq_true, decide_eq_true_iff] at hk
    obtain ⟨hp, hc⟩ := h (firstIs varB s)
    obtain ⟨k1, k2, k3, k4, k5⟩ := nextI_spec (free := free) (v := firstIs varB s) (a := a) (by omega) 200 _ hp hc (by omega)
    obtain ⟨n1, n2⟩ := cname_name (v := firstIs varB s) k5
    have h1 : StOk free (st.put (firstIs varB s) (nextI free (firstIs varB s) 200 (st.get (firstIs varB s)) + 1)) (a + 1) := fun v => by
      by_cases e : v = firstIs varB s
      · subst e; rw [St.get_same]; exact ⟨k3, by omega⟩
      · rw [St.get_other _ _ _ _ e]; exact ⟨pot_mono (h v).1 (by omega), (h v).2⟩
    obtain ⟨g1, g2, g3, g4⟩ := ren_ok free b ((s, cname (firstIs varB s) (nextI free (firstIs varB s) 200 (st.get (firstIs varB s)))) :: sc) _ (a + 1) hk.1.2
      (fun o n hm => by rcases List.mem_cons.1 hm with e | hm; (injection e with e1 e2; subst e1; subst e2; exact ⟨n1, n2⟩); exact hsc o n hm) h1 (by omega)
    rw [P.ren]
    refine ⟨?_, ?_, by rw [P.size, P.size, g3], by rw [P.nest, P.nest, g4]⟩
    · rw [P.ok, n1, g1, g2, hk.2]; rfl
    · rw [P.kind, P.kind, n2]

def P.canon (p : P) : P := (p.ren p.uses [] ⟨0, 0⟩).1
theorem stOk_zero (free : List Bs) : StOk free ⟨0, 0⟩ 0 := fun v => by cases v <;> exact ⟨Nat.zero_le _, Nat.zero_le _⟩

/-- A text has two bytes for each atom but one. -/
theorem P.size_text : ∀ {p : P}, p.ok = true → 2 * p.size ≤ p.text.length + 1
  | .nm s, h => by
    rw [P.ok] at h
    have := isName_ne h
    cases s with
    | nil => exact absurd rfl this
    | cons c d => simp [P.text, P.tree, T.text, P.size]
  | .f1 x p, h => by
    rw [P.ok, Bool.and_eq_true] at h
    have h1 := P.size_text h.1
    rw [P.text] at h1
    simp [P.text, P.tree, T.text, textAll, P.size]; omega
  | .f2 x p q, h => by
    rw [P.ok, Bool.and_eq_true, Bool.and_eq_true] at h
    have h1 := P.size_text h.1.1
    have h2 := P.size_text h.1.2
    rw [P.text] at h1 h2
    simp [P.text, P.tree, T.text, textAll, P.size]; omega
  | .bd s b, h => by
    rw [P.ok, Bool.and_eq_true, Bool.and_eq_true] at h
    have h1 := P.size_text h.1.2
    rw [P.text] at h1
    simp [P.text, P.tree, T.text, textAll, P.size]; omega

end Go.Proofs.Ytcdagenocmmidaa
