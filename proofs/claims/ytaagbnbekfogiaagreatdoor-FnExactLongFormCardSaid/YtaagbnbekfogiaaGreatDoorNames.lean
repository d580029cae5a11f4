/- Names: strings.Contains and strings.IndexByte at the two texts of letters. -/
import Derived.Test.YtaagbnbekfogiaaGreatDoorDig
import Derived.Test.YtaagbnbekfogiaaGreatDoorTree
import Derived.Test.YtaagbnbekfogiaaGreatDoorMathP
import Derived.Lib.Bytealg
namespace Go.Proofs.YtaagbnbekfogiaaGreatDoor
set_option linter.unusedVariables false
open Go.RowKit

theorem idx6 (c : UInt8) : decide (0 ≤ Lib.indexByte [120, 121, 122, 107, 108, 109] c) = (varB c || covB c) := by
  by_cases h1 : c = 120
  · subst h1; rfl
  by_cases h2 : c = 121
  · subst h2; rfl
  by_cases h3 : c = 122
  · subst h3; rfl
  by_cases h4 : c = 107
  · subst h4; rfl
  by_cases h5 : c = 108
  · subst h5; rfl
  by_cases h6 : c = 109
  · subst h6; rfl
  simp [Lib.indexByte, varB, covB, h1, h2, h3, h4, h5, h6, Ne.symm h1, Ne.symm h2, Ne.symm h3, Ne.symm h4, Ne.symm h5, Ne.symm h6]
theorem idx3 (c : UInt8) : decide (0 ≤ Lib.indexByte [120, 121, 122] c) = varB c := by
  by_cases h1 : c = 120
  · subst h1; rfl
  by_cases h2 : c = 121
  · subst h2; rfl
  by_cases h3 : c = 122
  · subst h3; rfl
  simp [Lib.indexByte, varB, h1, h2, h3, Ne.symm h1, Ne.symm h2, Ne.symm h3]

abbrev letters6 : ByteArray := ⟨#[120, 121, 122, 107, 108, 109]⟩

set_option maxRecDepth 100000 in
theorem sIndexByte_any (s : ByteArray) (c : Int) (w : World) :
    Calls Tryz.prog 81 #[.string s, .int .u8 c] w fun e w' => e = .returned (.int .i64 (Lib.indexByte s.data.toList c.toNat.toUInt8)) ∧ w = w' := by
  go_enter Tryz.func81, Tryz.ntmps81
  go_wp2
  rw [run_callFunc_extern Tryz.func111 (by kernel_rfl) (by kernel_rfl) (by kernel_rfl) (e := Extern.BytealgIndexByte.indexByte) (by kernel_rfl), Lib.run_indexByteString]
  simp only [Result.andThen]
  rw [Oper.upon_value]
  go_wp2
  go_ret
  exact ⟨rfl, rfl⟩

set_option maxRecDepth 100000 in
theorem iIndexByte_any (s : ByteArray) (c : Int) (w : World) :
    Calls Tryz.prog 99 #[.string s, .int .u8 c] w fun e w' => e = .returned (.int .i64 (Lib.indexByte s.data.toList c.toNat.toUInt8)) ∧ w = w' := by
  go_enter Tryz.func99, Tryz.ntmps99
  go_wp2
  rw [run_callFunc_extern Tryz.func111 (by kernel_rfl) (by kernel_rfl) (by kernel_rfl) (e := Extern.BytealgIndexByte.indexByte) (by kernel_rfl), Lib.run_indexByteString]
  simp only [Result.andThen]
  rw [Oper.upon_value]
  go_wp2
  go_ret
  exact ⟨rfl, rfl⟩

set_option maxRecDepth 100000 in
theorem contains_any (c : UInt8) (w : World) :
    Calls Tryz.prog 109 #[.string letters6, .string ⟨#[c]⟩] w fun e w' => e = .returned (.bool (varB c || covB c)) ∧ w = w' := by
  go_enter Tryz.func109, Tryz.ntmps109
  go_wp2_with (first | (go_at_call 99; refine (iIndexByte_any _ _ _).mono ?_; rintro e w' ⟨rfl, rfl⟩) | go_in)
  go_ret
  exact ⟨ret_bool (idx6 c), rfl⟩

abbrev nameV (c : UInt8) (d : Bs) : Value := .agg #[.int .u8 c.toNat, str d]

def noName : Value := .agg #[.int .u8 0, .string ⟨#[]⟩]
def nameO (s : Bs) : Value := match s with
  | [] => noName
  | c :: d => nameV c d
theorem isName_nil : isName [] = false := rfl
theorem isName_long {s : Bs} (h : 4 < s.length) : isName s = false := by
  cases s with
  | nil => rfl
  | cons c r => simp at h; simp [isName, isVar, isCov, nameB, show ¬ r.length ≤ 3 from by omega]
theorem isName_dig {c : UInt8} {r : Bs} (h : r.all digB = false) : isName (c :: r) = false := by simp [isName, isVar, isCov, nameB, h]
theorem isName_not {c : UInt8} {r : Bs} (h : (varB c || covB c) = false) : isName (c :: r) = false := by
  rw [Bool.or_eq_false_iff] at h
  simp [isName, isVar, isCov, nameB, h.1, h.2]
theorem isName_yes {c : UInt8} {r : Bs} (h4 : r.length ≤ 3) (hd : r.all digB = true) (h : (varB c || covB c) = true) : isName (c :: r) = true := by
  rw [Bool.or_eq_true] at h
  simp only [isName, isVar, isCov, nameB, h4, hd]
  rcases h with h | h <;> simp [h]

theorem ba_cons {a : ByteArray} (h : 0 < a.size) : a.data.toList = a[0] :: (a.extract 1 a.size).data.toList := by
  obtain ⟨⟨l⟩⟩ := a
  cases l with
  | nil => exact absurd h (by decide)
  | cons c r => rw [Lib.extract_to_end]; rfl
theorem ba_first {a : ByteArray} (h : 0 < a.size) : a.extract 0 1 = ⟨#[a[0]]⟩ := by
  obtain ⟨⟨l⟩⟩ := a
  cases l with
  | nil => exact absurd h (by decide)
  | cons c r => rw [ba_extract]; simp; rfl
theorem ba_tail_size (a : ByteArray) : (a.extract 1 a.size).data.toList.length = a.size - 1 := by
  rw [Lib.extract_to_end, List.length_drop, ← ba_size]
def NPost (a : ByteArray) (w : World) (e : Ending) (w' : World) : Prop :=
  e = .returned (.tuple #[if isName a.data.toList then nameO a.data.toList else noName, .bool (isName a.data.toList)]) ∧ Below w.heap.size w w'
theorem NPost.no {a : ByteArray} {w w' : World} (h : isName a.data.toList = false) (hb : Below w.heap.size w w') : NPost a w (.returned (.tuple #[.agg #[.int .u8 0, .string ⟨#[]⟩], .bool false])) w' := by
  unfold NPost; rw [h]; exact ⟨rfl, hb⟩
theorem NPost.yes {a : ByteArray} {w w' : World} (h0 : 0 < a.size) (h : isName a.data.toList = true) (hb : Below w.heap.size w w') : NPost a w (.returned (.tuple #[.agg #[.int .u8 a[0].toNat, .string (a.extract 1 a.size)], .bool true])) w' := by
  unfold NPost; rw [h]; refine ⟨?_, hb⟩
  rw [ba_cons h0]; rfl

set_option maxRecDepth 100000 in
theorem readName_any (a : ByteArray) (w : World) : Calls Tryz.prog 95 #[.string a] w (NPost a w) := by
  by_cases h1 : a.size < 1
  · have no := Lib.hid (fun w' h => NPost.no (a := a) (w := w) (w' := w') (by rw [ba_size] at h1; rw [List.eq_nil_of_length_eq_zero (l := a.data.toList) (by omega)]; rfl) h)
    go_enter Tryz.func95, Tryz.ntmps95
    go_wp2_with fail
    refine bodyPost_ret (v := .tuple #[.agg #[.int .u8 0, .string ⟨#[]⟩], .bool false]) (by simp [results, Tryz.results95, go_sem]) rfl ?_
    exact no.out _ (by repeat (with_reducible first | exact hbel | exact Below.refl _ _ | refine Below.drew ?_ | refine Below.drewN ?_ _ | refine Below.alloc ?_ (by first | (simp; done) | (simp; omega) | omega | (have := Below.size hbel; simp; omega) | (have := Below.size hbel; omega)) _ | refine Below.setCell ?_ (by first | (simp; done) | (simp; omega) | omega) _))
  · have h0 : 0 < a.size := by omega
    by_cases h4 : 4 < a.size
    · have no := Lib.hid (fun w' h => NPost.no (a := a) (w := w) (w' := w') (isName_long (by rw [← ba_size]; exact h4)) h)
      go_enter Tryz.func95, Tryz.ntmps95
      go_wp2_with fail
      refine bodyPost_ret (v := .tuple #[.agg #[.int .u8 0, .string ⟨#[]⟩], .bool false]) (by simp [results, Tryz.results95, go_sem]) rfl ?_
      exact no.out _ (by repeat (with_reducible first | exact hbel | exact Below.refl _ _ | refine Below.drew ?_ | refine Below.drewN ?_ _ | refine Below.alloc ?_ (by first | (simp; done) | (simp; omega) | omega | (have := Below.size hbel; simp; omega) | (have := Below.size hbel; omega)) _ | refine Below.setCell ?_ (by first | (simp; done) | (simp; omega) | omega) _))
    · have e0 := ba_first h0
      cases hd : allDig (a.extract 1 a.size)
      · have no := Lib.hid (fun w' h => NPost.no (a := a) (w := w) (w' := w') (by rw [ba_cons h0]; exact isName_dig hd) h)
        go_enter Tryz.func95, Tryz.ntmps95
        go_wp2_with (go_at_call 108; refine (allDigits_any _ _ (by simp; omega)).mono ?_; rintro e w' ⟨rfl, rfl⟩)
        refine bodyPost_ret (v := .tuple #[.agg #[.int .u8 0, .string ⟨#[]⟩], .bool false]) (by simp [results, Tryz.results95, go_sem]) rfl ?_
        exact no.out _ (by repeat (with_reducible first | exact hbel | exact Below.refl _ _ | refine Below.drew ?_ | refine Below.drewN ?_ _ | refine Below.alloc ?_ (by first | (simp; done) | (simp; omega) | omega | (have := Below.size hbel; simp; omega) | (have := Below.size hbel; omega)) _ | refine Below.setCell ?_ (by first | (simp; done) | (simp; omega) | omega) _))
      · cases hc : (varB a[0] || covB a[0])
        · have no := Lib.hid (fun w' h => NPost.no (a := a) (w := w) (w' := w') (by rw [ba_cons h0]; exact isName_not hc) h)
          go_enter Tryz.func95, Tryz.ntmps95
          go_wp2_with (first
            | (go_at_call 108; refine (allDigits_any _ _ (by simp; omega)).mono ?_; rintro e w' ⟨rfl, rfl⟩)
            | (go_at_call 109; refine Calls.mono (contains_any (a[0]) _) ?_; rintro e w1 ⟨rfl, rfl⟩))
          refine bodyPost_ret (v := .tuple #[.agg #[.int .u8 0, .string ⟨#[]⟩], .bool false]) (by simp [results, Tryz.results95, go_sem]) rfl ?_
          exact no.out _ (by repeat (with_reducible first | exact hbel | exact Below.refl _ _ | refine Below.drew ?_ | refine Below.drewN ?_ _ | refine Below.alloc ?_ (by first | (simp; done) | (simp; omega) | omega | (have := Below.size hbel; simp; omega) | (have := Below.size hbel; omega)) _ | refine Below.setCell ?_ (by first | (simp; done) | (simp; omega) | omega) _))
        · have yes := Lib.hid (fun w' h => NPost.yes (a := a) (w := w) (w' := w') h0 (by rw [ba_cons h0]; exact isName_yes (by rw [ba_tail_size]; omega) hd hc) h)
          go_enter Tryz.func95, Tryz.ntmps95
          go_wp2_with (first
            | (go_at_call 108; refine (allDigits_any _ _ (by simp; omega)).mono ?_; rintro e w' ⟨rfl, rfl⟩)
            | (go_at_call 109; refine Calls.mono (contains_any (a[0]) _) ?_; rintro e w1 ⟨rfl, rfl⟩))
          go_region
          go_wp2_with fail
          refine bodyPost_ret (v := .tuple #[.agg #[.int .u8 a[0].toNat, .string (a.extract 1 a.size)], .bool true]) (by simp [results, Tryz.results95, go_sem]) rfl ?_
          exact yes.out _ (by repeat (with_reducible first | exact hbel | exact Below.refl _ _ | refine Below.drew ?_ | refine Below.drewN ?_ _ | refine Below.alloc ?_ (by first | (simp; done) | (simp; omega) | omega | (have := Below.size hbel; simp; omega) | (have := Below.size hbel; omega)) _ | refine Below.setCell ?_ (by first | (simp; done) | (simp; omega) | omega) _))

end Go.Proofs.YtaagbnbekfogiaaGreatDoor
