/- Canonical programs, as plain mathematics: names are given out in the order of the text. -/
import Derived.Test.YtaagbnbekfogiaaGreatDoorMathU
import Derived.Lib.ItoaNum
namespace Go.Proofs.YtaagbnbekfogiaaGreatDoor
set_option linter.unusedVariables false

/-- Decimals of a number. -/
def dec (i : Nat) : Bs := Lib.decDigits i
theorem dec_eq (i : Nat) : dec i = if i < 10 then [UInt8.ofNat (48 + i)] else dec (i / 10) ++ [UInt8.ofNat (48 + i % 10)] := by
  unfold dec
  conv => lhs; rw [Lib.decDigits]
  split <;> rfl
theorem dec_one {i : Nat} (h : i < 10) : dec i = [UInt8.ofNat (48 + i)] := by rw [dec_eq, if_pos h]
theorem dec_more {i : Nat} (h : ¬ i < 10) : dec i = dec (i / 10) ++ [UInt8.ofNat (48 + i % 10)] := by rw [dec_eq, if_neg h]
theorem dec_ne (i : Nat) : dec i ≠ [] := by
  by_cases h : i < 10
  · rw [dec_one h]; simp
  · rw [dec_more h]; simp
theorem ofNat_inj {a b : Nat} (ha : a < 10) (hb : b < 10) (h : UInt8.ofNat (48 + a) = UInt8.ofNat (48 + b)) : a = b := by
  have := congrArg UInt8.toNat h
  simp at this
  omega
theorem dec_inj : ∀ (i j : Nat), dec i = dec j → i = j := by
  intro i
  induction i using Nat.strongRecOn with
  | _ i ih =>
    intro j h
    by_cases hi : i < 10
    · by_cases hj : j < 10
      · rw [dec_one hi, dec_one hj] at h
        injection h with h
        exact ofNat_inj hi hj h
      · rw [dec_one hi, dec_more hj] at h
        have := congrArg List.length h
        have h2 := dec_ne (j / 10)
        cases hd : dec (j / 10) with
        | nil => exact absurd hd h2
        | cons a l => rw [hd] at this; simp at this
    · by_cases hj : j < 10
      · rw [dec_more hi, dec_one hj] at h
        have := congrArg List.length h
        have h2 := dec_ne (i / 10)
        cases hd : dec (i / 10) with
        | nil => exact absurd hd h2
        | cons a l => rw [hd] at this; simp at this
      · rw [dec_more hi, dec_more hj] at h
        obtain ⟨h1, h2⟩ := List.append_inj' h rfl
        have e := ih (i / 10) (by omega) (j / 10) h1
        injection h2 with h2
        have e2 := ofNat_inj (by omega) (by omega) h2
        omega
theorem dig_ofNat {a : Nat} (h : a < 10) : digB (UInt8.ofNat (48 + a)) = true := by
  unfold digB
  simp
  omega
theorem dec_dig (i : Nat) : (dec i).all digB = true := by
  induction i using Nat.strongRecOn with
  | _ i ih =>
    by_cases h : i < 10
    · rw [dec_one h, List.all_cons, dig_ofNat h]; rfl
    · rw [dec_more h, List.all_append, ih (i / 10) (by omega), List.all_cons, dig_ofNat (show i % 10 < 10 by omega)]; rfl
theorem dec_len : ∀ (k i : Nat), i < 10 ^ (k + 1) → (dec i).length ≤ k + 1
  | 0, i, h => by rw [dec_one (by simpa using h)]; simp
  | k + 1, i, h => by
    by_cases h1 : i < 10
    · rw [dec_one h1]; simp
    · rw [dec_more h1, List.length_append]
      have := dec_len k (i / 10) (by rw [Nat.pow_succ] at h; omega)
      simp; omega

def cname (v : Bool) (i : Nat) : Bs := (if v then 120 else 107) :: dec i
theorem cname_inj {v : Bool} {i j : Nat} (h : cname v i = cname v j) : i = j := by
  unfold cname at h
  injection h with _ h
  exact dec_inj _ _ h
theorem cname_first (v : Bool) (i : Nat) : firstIs varB (cname v i) = v := by cases v <;> rfl
theorem cname_kinds {v u : Bool} {i j : Nat} (h : cname v i = cname u j) : v = u ∧ i = j := by
  have hv : v = u := by rw [← cname_first v i, ← cname_first u j, h]
  subst hv
  exact ⟨rfl, cname_inj h⟩
theorem cname_name {v : Bool} {i : Nat} (hi : i < 1000) : isName (cname v i) = true := by
  have h1 := dec_dig i
  have h2 := dec_len 2 i hi
  cases v
  · simp only [isName, isVar, isCov, nameB, cname, if_false, Bool.false_eq_true, h1, decide_eq_true h2]; rfl
  · simp only [isName, isVar, isCov, nameB, cname, if_true, h1, decide_eq_true h2]; rfl

/-- A name of any length: its first byte is that of a variable or covariable. -/
def nmB : Bs → Bool
  | [] => false
  | c :: d => (varB c || covB c) && decide (d.length ≤ 20)
theorem nmB_name {s : Bs} (h : isName s = true) : nmB s = true := by
  cases s with
  | nil => cases h
  | cons c d =>
    simp only [isName, isVar, isCov, nameB, Bool.or_eq_true, Bool.and_eq_true, decide_eq_true_iff] at h
    simp only [nmB, Bool.and_eq_true, Bool.or_eq_true, decide_eq_true_iff]
    rcases h with h | h
    · exact ⟨.inl h.1.1, by omega⟩
    · exact ⟨.inr h.1.1, by omega⟩
theorem nmB_cname {v : Bool} {i : Nat} (hi : i < 1000000) : nmB (cname v i) = true := by
  have h2 := dec_len 5 i (by simpa using hi)
  cases v
  · simp only [nmB, cname, if_false, Bool.false_eq_true, decide_eq_true (show (dec i).length ≤ 20 by omega)]; rfl
  · simp only [nmB, cname, if_true, decide_eq_true (show (dec i).length ≤ 20 by omega)]; rfl
theorem nmB_or {c : UInt8} {d : Bs} (h : nmB (c :: d) = true) : varB c = true ∨ covB c = true := by
  simp only [nmB, Bool.and_eq_true, Bool.or_eq_true] at h; exact h.1
theorem nmB_ne {s : Bs} (h : nmB s = true) : s ≠ [] := by intro e; subst e; cases h
theorem nmB_len {s : Bs} (h : nmB s = true) : s.length ≤ 21 := by
  cases s with
  | nil => cases h
  | cons c d => simp only [nmB, Bool.and_eq_true, decide_eq_true_iff] at h; simp; exact h.2

/-- All names are ones, of any length. -/
def P.nok : P → Bool
  | .nm s => nmB s
  | .f1 _ p => p.nok
  | .f2 _ p q => p.nok && q.nok
  | .bd s b => nmB s && b.nok
theorem P.nok_ok : ∀ {p : P}, p.ok = true → p.nok = true
  | .nm s, h => nmB_name h
  | .f1 _ p, h => by rw [P.ok, Bool.and_eq_true] at h; rw [P.nok]; exact P.nok_ok h.1
  | .f2 _ p q, h => by rw [P.ok, Bool.and_eq_true, Bool.and_eq_true] at h; rw [P.nok, P.nok_ok h.1.1, P.nok_ok h.1.2]; rfl
  | .bd s b, h => by rw [P.ok, Bool.and_eq_true, Bool.and_eq_true] at h; rw [P.nok, nmB_name h.1.1, P.nok_ok h.1.2]; rfl
theorem P.uses_nm : ∀ {p : P}, p.nok = true → ∀ s ∈ p.uses, nmB s = true
  | .nm s, h, x, hx => by rw [P.uses] at hx; rw [P.nok] at h; simp at hx; subst hx; exact h
  | .f1 _ p, h, x, hx => by rw [P.uses] at hx; rw [P.nok] at h; exact P.uses_nm h x hx
  | .f2 _ p q, h, x, hx => by
    rw [P.uses, List.mem_append] at hx; rw [P.nok, Bool.and_eq_true] at h
    rcases hx with hx | hx
    · exact P.uses_nm h.1 x hx
    · exact P.uses_nm h.2 x hx
  | .bd s b, h, x, hx => by
    rw [P.uses, mem_minus] at hx; rw [P.nok, Bool.and_eq_true] at h
    exact P.uses_nm h.2 x hx.1

structure St where
  x : Nat
  k : Nat
def St.get (s : St) (v : Bool) : Nat := if v then s.x else s.k
def St.put (s : St) (v : Bool) (i : Nat) : St := if v then ⟨i, s.k⟩ else ⟨s.x, i⟩
theorem St.get_same (s : St) (v : Bool) (i : Nat) : (s.put v i).get v = i := by cases v <;> rfl
theorem St.get_other (s : St) (v u : Bool) (i : Nat) (h : u ≠ v) : (s.put v i).get u = s.get u := by cases v <;> cases u <;> first | rfl | exact absurd rfl h

/-- The next index whose name is not free; f: at least so many are tried. -/
def nextI (free : List Bs) (v : Bool) : Nat → Nat → Nat
  | 0, i => i
  | f + 1, i => if cname v i ∈ free then nextI free v f (i + 1) else i
def nxt (free : List Bs) (v : Bool) (i : Nat) : Nat := nextI free v (free.length + 1) i

/-- How many indexes below c are free. -/
def cnt (free : List Bs) (v : Bool) : Nat → Nat
  | 0 => 0
  | c + 1 => cnt free v c + if cname v c ∈ free then 1 else 0
theorem cnt_minus {free : List Bs} {v : Bool} {m : Nat} : ∀ c, c ≤ m → cnt (minus free (cname v m)) v c = cnt free v c
  | 0, _ => rfl
  | c + 1, h => by
    have hne : cname v c ≠ cname v m := fun e => by have := cname_inj e; omega
    rw [cnt, cnt, cnt_minus c (by omega)]
    congr 1
    simp [mem_minus, hne]
theorem minus_lt {free : List Bs} {s : Bs} (h : s ∈ free) : (minus free s).length < free.length := by
  induction free with
  | nil => cases h
  | cons a l ih =>
    unfold minus at ih ⊢
    by_cases e : a = s
    · subst e
      have := List.length_filter_le (fun x => decide (x ≠ a)) l
      simp at this ⊢
      omega
    · have h' : s ∈ l := by rcases List.mem_cons.1 h with h | h; exact absurd h.symm e; exact h
      have := ih h'
      simp [e] at this ⊢
      omega
theorem cnt_le (v : Bool) : ∀ (c : Nat) (free : List Bs), cnt free v c ≤ free.length
  | 0, free => Nat.zero_le _
  | c + 1, free => by
    rw [cnt]
    by_cases hm : cname v c ∈ free
    · have h1 := cnt_le v c (minus free (cname v c))
      rw [cnt_minus c (Nat.le_refl _)] at h1
      have := minus_lt hm
      rw [if_pos hm]; omega
    · have := cnt_le v c free
      rw [if_neg hm]; omega
theorem nextI_least {free : List Bs} {v : Bool} : ∀ f c, free.length + 1 ≤ f + cnt free v c → cname v (nextI free v f c) ∉ free ∧ c ≤ nextI free v f c ∧ ∀ i, c ≤ i → i < nextI free v f c → cname v i ∈ free
  | 0, c, h => by have := cnt_le v c free; omega
  | f + 1, c, h => by
    rw [nextI]
    by_cases hm : cname v c ∈ free
    · rw [if_pos hm]
      obtain ⟨k1, k2, k3⟩ := nextI_least f (c + 1) (by rw [cnt, if_pos hm]; omega)
      refine ⟨k1, by omega, fun i h1 h2 => ?_⟩
      by_cases e : i = c
      · subst e; exact hm
      · exact k3 i (by omega) h2
    · rw [if_neg hm]
      exact ⟨hm, Nat.le_refl _, fun i h1 h2 => by omega⟩
theorem nxt_least (free : List Bs) (v : Bool) (c : Nat) : cname v (nxt free v c) ∉ free ∧ c ≤ nxt free v c ∧ ∀ i, c ≤ i → i < nxt free v c → cname v i ∈ free := nextI_least _ c (by omega)
theorem nxt_is {free : List Bs} {v : Bool} {c k : Nat} (h1 : cname v k ∉ free) (h2 : c ≤ k) (h3 : ∀ i, c ≤ i → i < k → cname v i ∈ free) : nxt free v c = k := by
  obtain ⟨k1, k2, k3⟩ := nxt_least free v c
  rcases Nat.lt_trichotomy (nxt free v c) k with h | h | h
  · exact absurd (h3 _ k2 h) k1
  · exact h
  · exact absurd (k3 k h2 h) h1
theorem nxt_same {free free' : List Bs} (h : ∀ s, s ∈ free ↔ s ∈ free') (v : Bool) (c : Nat) : nxt free v c = nxt free' v c := by
  obtain ⟨k1, k2, k3⟩ := nxt_least free' v c
  exact nxt_is (fun hm => k1 ((h _).1 hm)) k2 (fun i h1 h2 => (h _).2 (k3 i h1 h2))

/-- c indexes have been passed, a of them given out. -/
def Pot (free : List Bs) (v : Bool) (c a : Nat) : Prop := c ≤ a + cnt free v c
theorem pot_skip {free : List Bs} {v : Bool} {c a : Nat} (h : Pot free v c a) (hm : cname v c ∈ free) : Pot free v (c + 1) a := by
  unfold Pot at *; rw [cnt, if_pos hm]; omega
theorem pot_take {free : List Bs} {v : Bool} {c a : Nat} (h : Pot free v c a) (hm : cname v c ∉ free) : Pot free v (c + 1) (a + 1) := by
  unfold Pot at *; rw [cnt, if_neg hm]; omega
theorem pot_mono {free : List Bs} {v : Bool} {c a b : Nat} (h : Pot free v c a) (hab : a ≤ b) : Pot free v c b := by
  unfold Pot at *; omega
theorem pot_lt {free : List Bs} {v : Bool} {c a : Nat} (h : Pot free v c a) : c ≤ a + free.length := by
  have := cnt_le v c free
  unfold Pot at h; omega
theorem pot_skips {free : List Bs} {v : Bool} {a c : Nat} (h : Pot free v c a) : ∀ j, (∀ i, c ≤ i → i < c + j → cname v i ∈ free) → Pot free v (c + j) a
  | 0, _ => h
  | j + 1, hj => pot_skip (pot_skips h j fun i h1 h2 => hj i h1 (by omega)) (hj (c + j) (by omega) (by omega))
theorem nxt_pot {free : List Bs} {v : Bool} {a c : Nat} (h : Pot free v c a) : nxt free v c ≤ a + free.length ∧ Pot free v (nxt free v c + 1) (a + 1) := by
  obtain ⟨k1, k2, k3⟩ := nxt_least free v c
  have hp := pot_skips h (nxt free v c - c) (fun i h1 h2 => k3 i h1 (by omega))
  rw [show c + (nxt free v c - c) = nxt free v c from by omega] at hp
  exact ⟨pot_lt hp, pot_take hp k1⟩

/-- What stands for a name in a scope, the innermost one first. -/
def look : List (Bs × Bs) → Bs → Option Bs
  | [], _ => none
  | (o, n) :: sc, s => if o = s then some n else look sc s

/-- Bound names are renamed; g tells what a name becomes that is in no scope. -/
def P.ren (free : List Bs) (g : Bs → St → P × St) : List (Bs × Bs) → P → St → P × St
  | sc, .nm s, st => match look sc s with
    | some n => (.nm n, st)
    | none => g s st
  | sc, .f1 h p, st => (.f1 h (p.ren free g sc st).1, (p.ren free g sc st).2)
  | sc, .f2 h p q, st => (.f2 h (p.ren free g sc st).1 (q.ren free g sc (p.ren free g sc st).2).1, (q.ren free g sc (p.ren free g sc st).2).2)
  | sc, .bd s b, st =>
    let i := nxt free (firstIs varB s) (st.get (firstIs varB s))
    let r := b.ren free g ((s, cname (firstIs varB s) i) :: sc) (st.put (firstIs varB s) (i + 1))
    (.bd (cname (firstIs varB s) i) r.1, r.2)
/-- A name stays. -/
def stay (s : Bs) (st : St) : P × St := (.nm s, st)
/-- A name for which a program is put. -/
def putAt (free : List Bs) : Option (Bs × P) → Bs → St → P × St
  | none, s, st => (.nm s, st)
  | some (n, by_), s, st => if n = s then by_.ren free stay [] st else (.nm s, st)

def P.binders : P → Nat
  | .nm _ => 0
  | .f1 _ p => p.binders
  | .f2 _ p q => p.binders + q.binders
  | .bd _ b => 1 + b.binders
theorem P.binders_uses : ∀ p : P, p.binders + p.uses.length ≤ p.size
  | .nm s => by simp [P.binders, P.uses, P.size]
  | .f1 _ p => by have := p.binders_uses; rw [P.binders, P.uses, P.size]; omega
  | .f2 _ p q => by have := p.binders_uses; have := q.binders_uses; rw [P.binders, P.uses, P.size, List.length_append]; omega
  | .bd s b => by have := b.binders_uses; have := minus_len b.uses s; rw [P.binders, P.uses, P.size]; omega
theorem P.binders_size : ∀ p : P, 2 * p.binders + 1 ≤ p.size
  | .nm s => by simp [P.binders, P.size]
  | .f1 _ p => by have := p.binders_size; rw [P.binders, P.size]; omega
  | .f2 _ p q => by have := p.binders_size; have := q.binders_size; rw [P.binders, P.size]; omega
  | .bd s b => by have := b.binders_size; rw [P.binders, P.size]; omega

def StOk (free : List Bs) (st : St) (a : Nat) : Prop := ∀ v, Pot free v (st.get v) a
theorem stOk_zero (free : List Bs) : StOk free ⟨0, 0⟩ 0 := fun v => by cases v <;> exact Nat.zero_le _
theorem stOk_next {free : List Bs} {st : St} {a : Nat} (h : StOk free st a) (v : Bool) : StOk free (st.put v (nxt free v (st.get v) + 1)) (a + 1) := fun u => by
  by_cases e : u = v
  · subst e; rw [St.get_same]; exact (nxt_pot (h u)).2
  · rw [St.get_other _ _ _ _ e]; exact pot_mono (h u) (by omega)
/-- g keeps the state's bound, by the binders that it makes. -/
def GSt (free : List Bs) (g : Bs → St → P × St) : Prop := ∀ s st a, StOk free st a → StOk free (g s st).2 (a + (g s st).1.binders)
theorem ren_st {free : List Bs} {g : Bs → St → P × St} (hg : GSt free g) : ∀ (p : P) (sc : List (Bs × Bs)) (st : St) (a : Nat), StOk free st a → StOk free (p.ren free g sc st).2 (a + (p.ren free g sc st).1.binders)
  | .nm s, sc, st, a, h => by
    rw [P.ren]
    cases look sc s with
    | none => exact hg s st a h
    | some n => exact h
  | .f1 _ p, sc, st, a, h => ren_st hg p sc st a h
  | .f2 _ p q, sc, st, a, h => by
    have h1 := ren_st hg p sc st a h
    have h2 := ren_st hg q sc _ _ h1
    rw [P.ren, P.binders, ← Nat.add_assoc]
    exact h2
  | .bd s b, sc, st, a, h => by
    have h2 := ren_st hg b ((s, cname (firstIs varB s) (nxt free (firstIs varB s) (st.get (firstIs varB s)))) :: sc) _ (a + 1) (stOk_next h (firstIs varB s))
    rw [P.ren, P.binders, ← Nat.add_assoc]
    exact h2
theorem gst_stay (free : List Bs) : GSt free stay := fun s st a h => h
theorem gst_put (free : List Bs) (o : Option (Bs × P)) : GSt free (putAt free o) := fun s st a h => by
  cases o with
  | none => exact h
  | some e =>
    obtain ⟨n, q⟩ := e
    rw [putAt]
    split
    · exact ren_st (gst_stay free) q [] st a h
    · exact h

end Go.Proofs.YtaagbnbekfogiaaGreatDoor
