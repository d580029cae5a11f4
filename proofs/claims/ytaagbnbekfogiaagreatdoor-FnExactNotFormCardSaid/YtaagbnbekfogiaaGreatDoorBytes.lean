/- Plain mathematics: texts, what they are read as, formulas. No Go, no program. What the small functions on bytes answer: contracts of one call each. No condition. -/
import Derived.Below
import Derived.Lib.Strings
import Derived.Lib.IndexBytes
import Derived.Test.YtaagbnbekfogiaaGreatDoorRows
import Derived.WalkKit
import Derived.WalkSpells
import Derived.WalkLawsBesides
namespace Go.Proofs.YtaagbnbekfogiaaGreatDoor
set_option linter.unusedVariables false

abbrev Bs := List UInt8

def lowB (c : UInt8) : Bool := decide (97 ≤ c.toNat) && decide (c.toNat ≤ 122)
def digB (c : UInt8) : Bool := decide (48 ≤ c.toNat) && decide (c.toNat ≤ 57)
def atomB (c : UInt8) : Bool := lowB c || digB c || decide (c.toNat = 42) || decide (c.toNat = 43) || decide (c.toNat = 45)

/-- A text that is read: an atom or parts. -/
inductive T where
  | atom (s : Bs)
  | node (ps : List T)
  deriving Inhabited

def headIs (c : UInt8) (l : Bs) : Bool := l.head? == some c

def rdLoop (r : Bs → Option (T × Bs)) : Nat → Bs → List T → Option (List T × Bs)
  | 0, _, _ => none
  | k + 1, s, acc => match r s with
    | none => none
    | some (_, []) => none
    | some (p, c :: q) => if c = 41 then some (acc ++ [p], q) else if c = 32 then rdLoop r k q (acc ++ [p]) else none

def rdAtom (s : Bs) : Option (T × Bs) := if s.takeWhile atomB = [] then none else some (.atom (s.takeWhile atomB), s.dropWhile atomB)

def rdNode : Option (List T × Bs) → Option (T × Bs)
  | none => none
  | some (ps, q) => some (.node ps, q)

def rd : Nat → Bs → Option (T × Bs)
  | 0, s => if headIs 40 s then none else rdAtom s
  | m + 1, s => if headIs 40 s then rdNode (rdLoop (rd m) (s.tail.length + 1) s.tail []) else rdAtom s

theorem takeWhile_append_dropWhile (p : UInt8 → Bool) (l : Bs) : l.takeWhile p ++ l.dropWhile p = l := List.takeWhile_append_dropWhile

/-- What is behind what is read is a proper end of the text. -/
def Shorter (r : Bs → Option (T × Bs)) : Prop := ∀ s t q, r s = some (t, q) → ∃ p, p ≠ [] ∧ s = p ++ q

theorem rdAtom_shorter : Shorter rdAtom := by
  intro s t q h
  unfold rdAtom at h
  split at h
  · cases h
  · rename_i hn
    injection h with h
    injection h with h1 h2
    exact ⟨_, hn, by rw [← h2]; exact (List.takeWhile_append_dropWhile).symm⟩

theorem rdLoop_shorter {r : Bs → Option (T × Bs)} (hr : Shorter r) : ∀ k s acc ps q, rdLoop r k s acc = some (ps, q) → ∃ p, p ≠ [] ∧ s = p ++ q := by
  intro k
  induction k with
  | zero => intro s acc ps q h; cases h
  | succ k ih =>
    intro s acc ps q h
    rw [rdLoop] at h
    split at h
    · cases h
    · cases h
    · rename_i p c q' hrs
      obtain ⟨p1, hp1, hs⟩ := hr _ _ _ hrs
      split at h
      · injection h with h
        injection h with h1 h2
        subst h2
        exact ⟨p1 ++ [c], by simp, by rw [hs]; simp⟩
      · split at h
        · obtain ⟨p2, hp2, hq⟩ := ih _ _ _ _ h
          exact ⟨p1 ++ c :: p2, by simp, by rw [hs, hq]; simp⟩
        · cases h

theorem rd_shorter : ∀ n, Shorter (rd n) := by
  intro n
  induction n with
  | zero =>
    intro s t q h
    rw [rd] at h
    split at h
    · cases h
    · exact rdAtom_shorter _ _ _ h
  | succ n ih =>
    intro s t q h
    rw [rd] at h
    split at h
    · rename_i hh
      unfold rdNode at h
      split at h
      · cases h
      · rename_i ps q' hl
        injection h with h
        injection h with h1 h2
        subst h2
        obtain ⟨p, hp, hs⟩ := rdLoop_shorter ih _ _ _ _ _ hl
        cases s with
        | nil => simp [headIs] at hh
        | cons c s => exact ⟨c :: p, by simp, by simp at hs; rw [hs]; simp⟩
    · exact rdAtom_shorter _ _ _ h

theorem suffix_drop {r : Bs → Option (T × Bs)} (hr : Shorter r) {l : Bs} {i : Nat} {t : T} {q : Bs} (hi : i ≤ l.length) (h : r (l.drop i) = some (t, q)) :
    q.length < l.length - i ∧ q = l.drop (l.length - q.length) := by
  obtain ⟨p, hp, hs⟩ := hr _ _ _ h
  have h1 := congrArg List.length hs
  rw [List.length_drop, List.length_append] at h1
  have h2 : p.length ≠ 0 := by simpa using hp
  refine ⟨by omega, ?_⟩
  have h3 : l.drop (i + p.length) = q := by rw [← List.drop_drop, hs]; simp
  rw [show l.length - q.length = i + p.length from by omega, h3]

theorem rd_length {n : Nat} {s : Bs} {t : T} {q : Bs} (h : rd n s = some (t, q)) : q.length < s.length := by
  obtain ⟨p, hp, rfl⟩ := rd_shorter n _ _ _ h
  have : p.length ≠ 0 := by simpa using hp
  rw [List.length_append]
  omega

/-- What a whole text is read as. -/
def readT (s : Bs) : Option T := if 6000 < s.length then none else match rd 200 s with
  | some (t, []) => some t
  | _ => none
theorem readT_long {s : Bs} (h : 6000 < s.length) : readT s = none := by rw [readT, if_pos h]
theorem readT_none {s : Bs} (h : rd 200 s = none) : readT s = none := by
  unfold readT; split
  · rfl
  · rw [h]
theorem readT_rest {s : Bs} {t : T} {q : Bs} (h : rd 200 s = some (t, q)) (hq : q ≠ []) : readT s = none := by
  unfold readT; split
  · rfl
  · rw [h]
    cases q with
    | nil => exact absurd rfl hq
    | cons c q => rfl
theorem readT_some {s : Bs} {t : T} (hl : ¬ 6000 < s.length) (h : rd 200 s = some (t, [])) : readT s = some t := by rw [readT, if_neg hl, h]

/-- Is an atom a letter of a formula? -/
def isLet : Bs → Bool
  | [] => false
  | c :: r => decide (r.length ≤ 2) && lowB c && r.all digB

/-! ### all, by an index -/
section
variable {p : UInt8 → Bool} {s : ByteArray} {i k : Nat}
def allTo (p : UInt8 → Bool) (s : ByteArray) (i k : Nat) : Prop := ∀ j, i ≤ j → j < k → ∃ h : j < s.size, p s[j] = true
theorem allTo_zero : allTo p s i i := fun j h1 h2 => absurd h1 (by omega)
theorem allTo_step (h : allTo p s i k) (hk : k < s.size) (hp : p s[k] = true) : allTo p s i (k + 1) := fun j h1 h2 => by
  by_cases e : j = k
  · subst e; exact ⟨hk, hp⟩
  · exact h j h1 (by omega)
theorem ba_get' (s : ByteArray) (k : Nat) (h : k < s.size) (h' : k < s.data.toList.length) : s.data.toList[k] = s[k] := by obtain ⟨⟨l⟩⟩ := s; rfl
theorem ba_len (s : ByteArray) : s.size = s.data.toList.length := by obtain ⟨⟨l⟩⟩ := s; rfl
theorem allTo_all (h : allTo p s i k) (hk : s.size ≤ k) : (s.data.toList.drop i).all p = true := by
  rw [List.all_eq_true]
  intro x hx
  obtain ⟨j, hj, rfl⟩ := List.getElem_of_mem hx
  rw [List.length_drop, ← ba_len] at hj
  obtain ⟨h1, h2⟩ := h (i + j) (by omega) (by omega)
  rw [List.getElem_drop, ba_get' s (i + j) h1]
  exact h2
theorem all_false (hik : i ≤ k) (hk : k < s.size) (hp : p s[k] = false) : (s.data.toList.drop i).all p = false := by
  rw [List.all_eq_false]
  refine ⟨s[k], ?_, by simp [hp]⟩
  rw [← ba_get' s k hk (by rw [← ba_len]; exact hk)]
  rw [List.mem_iff_getElem]
  refine ⟨k - i, by rw [List.length_drop, ← ba_len]; omega, ?_⟩
  rw [List.getElem_drop]
  congr 1
  omega
end

/-! ### takeWhile, by an index -/
section
variable {p : UInt8 → Bool} {l : Bs} {k : Nat}
theorem tw_le : (l.takeWhile p).length ≤ l.length := by
  have h := congrArg List.length (List.takeWhile_append_dropWhile (p := p) (l := l))
  rw [List.length_append] at h; omega
theorem tw_step (h : k ≤ (l.takeWhile p).length) (hk : k < l.length) (hp : p l[k] = true) : k + 1 ≤ (l.takeWhile p).length := by
  induction l generalizing k with
  | nil => simp at hk
  | cons a l ih =>
    rw [List.takeWhile_cons] at h ⊢
    cases k with
    | zero => simp at hp; simp [hp]
    | succ k =>
      split at h
      · rename_i ha
        rw [if_pos ha]
        simp at h hk hp ⊢
        exact ih h hk hp
      · simp at h
theorem tw_stop (h : k ≤ (l.takeWhile p).length) (hk : k < l.length) (hp : p l[k] = false) : (l.takeWhile p).length = k := by
  induction l generalizing k with
  | nil => simp at hk
  | cons a l ih =>
    rw [List.takeWhile_cons] at h ⊢
    cases k with
    | zero => simp at hp; simp [hp]
    | succ k =>
      split at h
      · rename_i ha
        rw [if_pos ha]
        simp at h hk hp ⊢
        exact ih h hk hp
      · simp at h
theorem tw_end (h : k ≤ (l.takeWhile p).length) (hk : l.length ≤ k) : (l.takeWhile p).length = k := by
  have := tw_le (p := p) (l := l)
  omega
theorem tw_take : l.take (l.takeWhile p).length = l.takeWhile p := by
  have h := List.takeWhile_append_dropWhile (p := p) (l := l)
  conv => lhs; rw [← h]
  rw [List.take_left']; 
  rw [h]
theorem tw_drop : l.drop (l.takeWhile p).length = l.dropWhile p := by
  have h := List.takeWhile_append_dropWhile (p := p) (l := l)
  conv => lhs; rw [← h]
  rw [List.drop_left']
  rw [h]
end

/-! ### Byte arrays -/
theorem ba_get (s : ByteArray) (k : Nat) (h : k < s.size) (h' : k < s.data.toList.length) : s.data.toList[k] = s[k] := by obtain ⟨⟨l⟩⟩ := s; rfl
theorem ba_size (s : ByteArray) : s.size = s.data.toList.length := by obtain ⟨⟨l⟩⟩ := s; rfl
theorem headIs_short (s : ByteArray) (c : UInt8) (h : s.size < 1) : headIs c s.data.toList = false := by
  have : s.data.toList = [] := by
    rw [ba_size] at h
    exact List.eq_nil_of_length_eq_zero (by omega)
  rw [this]; rfl
theorem headIs_extract (s : ByteArray) (c : UInt8) (h : 1 ≤ s.size) : ((s.extract 0 1).toList == [c]) = headIs c s.data.toList := by
  rw [Lib.toList_data, Lib.extract_data]
  rw [ba_size] at h
  cases hl : s.data.toList with
  | nil => rw [hl] at h; simp at h
  | cons a l => simp [headIs]

theorem ba_extract (s : ByteArray) (a b : Nat) : s.extract a b = ⟨((s.data.toList.drop a).take (b - a)).toArray⟩ := by
  have h := Lib.extract_data s a b
  rw [← h]
theorem ba_to_end (s : ByteArray) (a : Nat) : s.extract a s.size = ⟨(s.data.toList.drop a).toArray⟩ := by
  rw [← Lib.extract_to_end]
theorem ba_tail (c : UInt8) (q : Bs) : (⟨(c :: q).toArray⟩ : ByteArray).extract 1 (q.length + 1) = ⟨q.toArray⟩ := by
  rw [ba_extract]; simp
theorem ba_empty {s : ByteArray} {i j : Nat} (hj : j ≤ s.size) (h : (s.extract i j).toList.isEmpty = true) : j ≤ i := by
  rw [Lib.toList_data, Lib.extract_data, List.isEmpty_iff] at h
  have h2 := congrArg List.length h
  rw [List.length_take, List.length_drop, ← ba_size] at h2
  simp at h2; omega
theorem ba_not_empty {s : ByteArray} {i j : Nat} (h : (s.extract i j).toList.isEmpty = false) : i < j := by
  rcases Nat.lt_or_ge i j with h' | h'
  · exact h'
  · rw [Lib.toList_data, Lib.extract_data, show j - i = 0 from by omega] at h
    simp at h
theorem ba_mk (s : ByteArray) : s = ⟨s.data.toList.toArray⟩ := rfl

theorem rd_atom {n : Nat} {s : Bs} (h : headIs 40 s = false) : rd n s = rdAtom s := by
  cases n <;> rw [rd, h] <;> rfl
theorem rd_zero {s : Bs} (h : headIs 40 s = true) : rd 0 s = none := by rw [rd, h]; rfl
theorem rd_succ {n : Nat} {s : Bs} (h : headIs 40 s = true) : rd (n + 1) s = rdNode (rdLoop (rd n) (s.tail.length + 1) s.tail []) := by rw [rd, h]; rfl
theorem rdLoop_none {r : Bs → Option (T × Bs)} {k : Nat} {s : Bs} {acc : List T} (h : r s = none) : rdLoop r k s acc = none := by
  cases k with
  | zero => rfl
  | succ k => rw [rdLoop, h]
section
variable {r : Bs → Option (T × Bs)} {k : Nat} {s q : Bs} {t : T} {acc : List T}
theorem rdLoop_close (h : r s = some (t, 41 :: q)) : rdLoop r (k + 1) s acc = some (acc ++ [t], q) := by rw [rdLoop, h]; rfl
theorem rdLoop_on (h : r s = some (t, 32 :: q)) : rdLoop r (k + 1) s acc = rdLoop r k q (acc ++ [t]) := by rw [rdLoop, h]; rfl
theorem rdLoop_bad (h : r s = some (t, q)) (h1 : headIs 41 q = false) (h2 : headIs 32 q = false) : rdLoop r k s acc = none := by
  cases k with
  | zero => rfl
  | succ k =>
    rw [rdLoop, h]
    cases q with
    | nil => rfl
    | cons c q =>
      have e1 : c ≠ 41 := by intro e; subst e; simp [headIs] at h1
      have e2 : c ≠ 32 := by intro e; subst e; simp [headIs] at h2
      simp [e1, e2]
end
theorem headIs_cons {c : UInt8} {l : Bs} (h : headIs c l = true) : ∃ q, l = c :: q := by
  cases l with
  | nil => simp [headIs] at h
  | cons a q => simp [headIs] at h; exact ⟨q, by rw [h]⟩
theorem rdAtom_none {s : Bs} (h : (s.takeWhile atomB).length = 0) : rdAtom s = none := by
  rw [rdAtom, if_pos (List.eq_nil_of_length_eq_zero h)]
theorem rdAtom_some {s : Bs} (h : 0 < (s.takeWhile atomB).length) : rdAtom s = some (.atom (s.takeWhile atomB), s.dropWhile atomB) := by
  rw [rdAtom, if_neg (fun e => by rw [e] at h; simp at h)]

end Go.Proofs.YtaagbnbekfogiaaGreatDoor

namespace Go.Proofs.YtaagbnbekfogiaaGreatDoor
set_option linter.unusedVariables false
open Go.RowKit


theorem ret_bool {a b : Bool} (h : a = b) : Ending.returned (.bool a) = .returned (.bool b) := by rw [h]
theorem ret_int {k : IntKind} {a b : Int} (h : a = b) : Ending.returned (.int k a) = .returned (.int k b) := by rw [h]

set_option maxHeartbeats 400000 in
theorem low_any (c : UInt8) (w : World) :
    Calls Tryz.prog 151 #[.int .u8 c.toNat] w fun e w' => e = .returned (.bool (lowB c)) ∧ w = w' := by
  go_enter Tryz.func151, Tryz.ntmps151
  go_wp2
  all_goals (go_ret; exact ⟨ret_bool (by unfold lowB; rw [Bool.eq_iff_iff]; simp; omega), rfl⟩)

set_option maxHeartbeats 400000 in
theorem dig_any (c : UInt8) (w : World) :
    Calls Tryz.prog 131 #[.int .u8 c.toNat] w fun e w' => e = .returned (.bool (digB c)) ∧ w = w' := by
  go_enter Tryz.func131, Tryz.ntmps131
  go_wp2
  all_goals (go_ret; exact ⟨ret_bool (by unfold digB; rw [Bool.eq_iff_iff]; simp; omega), rfl⟩)

set_option maxHeartbeats 400000 in
theorem atom_any (c : UInt8) (w : World) :
    Calls Tryz.prog 130 #[.int .u8 c.toNat] w fun e w' => e = .returned (.bool (atomB c)) ∧ w = w' := by
  go_enter Tryz.func130, Tryz.ntmps130
  go_wp2
  all_goals (go_ret; exact ⟨ret_bool (by unfold atomB lowB digB; rw [Bool.eq_iff_iff]; simp; omega), rfl⟩)

set_option maxHeartbeats 400000 in
theorem byte_any (c : UInt8) (w : World) :
    Calls Tryz.prog 92 #[.int .u8 c.toNat] w fun e w' => e = .returned (.bool (atomB c)) ∧ w = w' := by
  go_enter Tryz.func92, Tryz.ntmps92
  go_wp2
  all_goals (go_ret; exact ⟨ret_bool (by unfold atomB lowB digB; rw [Bool.eq_iff_iff]; simp; omega), rfl⟩)

-- 'strings.HasPrefix' of a text of one byte
set_option maxHeartbeats 400000 in
theorem pre_any (s : ByteArray) (c : UInt8) (w : World) :
    Calls Tryz.prog 106 #[.string s, .string ⟨#[c]⟩] w fun e w' => e = .returned (.bool (headIs c s.data.toList)) ∧ w = w' := by
  go_enter Tryz.func106, Tryz.ntmps106
  go_wp2
  · go_ret
    refine ⟨ret_bool ?_, rfl⟩
    exact headIs_extract s c (by omega)
  · go_ret
    refine ⟨ret_bool ?_, rfl⟩
    rw [headIs_short s c (by omega)]

theorem pre_str (q : Bs) (c : UInt8) (b : Bool) (h : headIs c q = b) (w : World) :
    Calls Tryz.prog 106 #[.string ⟨q.toArray⟩, .string ⟨#[c]⟩] w fun e w' => e = .returned (.bool b) ∧ w = w' := by
  subst h
  exact pre_any ⟨q.toArray⟩ c w

set_option maxHeartbeats 400000 in
theorem l6In_any (n a b : Int) (w : World) :
    Calls Tryz.prog 88 #[.int .i64 n, .int .i64 a, .int .i64 b] w fun e w' => e = .returned (.bool (decide (a ≤ n) && decide (n ≤ b))) ∧ w = w' := by
  go_enter Tryz.func88, Tryz.ntmps88
  go_wp2
  all_goals (go_ret; exact ⟨ret_bool (by rw [Bool.eq_iff_iff]; simp; omega), rfl⟩)

end Go.Proofs.YtaagbnbekfogiaaGreatDoor
