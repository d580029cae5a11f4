/- The law FnShape as a call. -/
import Derived.Test.YtijplnaoecoblaaDrawP
import Derived.Test.YtijplnaoecoblaaShpLaw
import Derived.Test.YtijplnaoecoblaaValLaw
import Derived.Test.YtijplnaoecoblaaArgB
namespace Go.Proofs.Ytijplnaoecoblaa
set_option linter.unusedVariables false
open Go.RowKit
set_option maxRecDepth 100000

theorem drawShp_any (A : Option Addr) (n c : Nat) (w : World) (hr : ByteRow w A n) (hc : n ≤ c) : Calls Try.prog 5 #[.slice A n c] w (DrawRet w) := by
  have ho := Lib.hid (open_any A n c w hr hc)
  clear hr
  go_enter Try.func5, Try.ntmps5
  go_wp2_with fail
  refine Calls.mono ho.out ?_
  rintro e w1 ⟨r, A1, n1, c1, rfl, rd, hrw, hb1⟩
  have hp := Lib.hid (pick_any r A1 n1 c1 0 3 w1 rd (by omega) (by omega) (by omega))
  have hb1' := Lib.hid hb1
  clear rd hb1
  go_wp2_with fail
  refine Calls.mono hp.out ?_
  rintro e w2 ⟨k, hk, rfl, rd, sb⟩
  have rd2 := Lib.hid rd
  have sb2 := Lib.hid sb
  clear rd sb
  by_cases hk0 : k = 0
  · subst hk0
    have call := Lib.hid (of_lit r A1 n1 c1 1 [⟨#[40, 112, 97, 105, 114, 32, 120, 32, 40, 110, 111, 116, 32, 107, 41, 41]⟩, ⟨#[40, 112, 97, 105, 114, 32, 40, 112, 97, 105, 114, 32, 120, 32, 121, 41, 32, 122, 41]⟩, ⟨#[40, 110, 111, 116, 32, 40, 116, 109, 117, 32, 120, 32, 40, 99, 117, 116, 32, 120, 32, 107, 41, 41, 41]⟩, ⟨#[120]⟩] 23 w2 rd2.out (by omega) (by simp) (by simp) (by decide) #[.string ⟨#[40, 112, 97, 105, 114, 32, 120, 32, 40, 110, 111, 116, 32, 107, 41, 41]⟩, .string ⟨#[40, 112, 97, 105, 114, 32, 40, 112, 97, 105, 114, 32, 120, 32, 121, 41, 32, 122, 41]⟩, .string ⟨#[40, 110, 111, 116, 32, 40, 116, 109, 117, 32, 120, 32, 40, 99, 117, 116, 32, 120, 32, 107, 41, 41, 41]⟩, .string ⟨#[120]⟩] rfl 4 9)
    go_wp2_with fail
    refine Calls.mono call.out ?_
    rintro e w3 ⟨s, hs, rfl, -, sb⟩
    have hb2 := Lib.hid ((sf_trans sb2.out sb).below hb1'.out hrw)
    clear sb
    go_wp2_with fail
    go_ret
    exact ⟨s, by omega, rfl, hb2.out⟩
  · have hk1 : ((k : Int) == 0) = false := by rw [beq_eq_false_iff_ne]; omega
    have call := Lib.hid (drawT2 r A1 n1 c1 1 w2 rd2.out (by omega))
    go_wp2_with fail
    refine Calls.mono call.out ?_
    rintro e w3 ⟨s, hs, rfl, -, sb⟩
    have hb2 := Lib.hid ((sf_trans sb2.out sb).below hb1'.out hrw)
    clear sb
    go_wp2_with fail
    go_ret
    exact ⟨s, by omega, rfl, hb2.out⟩

theorem P.nest_size : ∀ p : P, p.nest ≤ p.size
  | .nm s => by rw [P.nest]; omega
  | .f1 h p => by have := p.nest_size; rw [P.nest, P.size]; omega
  | .f2 h p q => by have := p.nest_size; have := q.nest_size; rw [P.nest, P.size]; omega
  | .bd s b => by have := b.nest_size; rw [P.nest, P.size]; omega

/-- A pair of a value with itself is read again. -/
theorem pair_read {s : Bs} {p : P} {a : Bs} (hrd : readP s = some p) (hs : s.length ≤ 192) (ha : p.shp = some a) : shpO (readP ([40, 112, 97, 105, 114, 32] ++ (s ++ (32 :: (s ++ [41]))))) = some (bothS a a) := by
  obtain ⟨rfl, hnest, hok, h5⟩ := readP_back hrd
  have hk := P.shp_kind ha hok
  have hsz := P.size_text hok
  have hns := P.nest_size p
  have hok2 : (P.f2 pairB p p).ok = true := by
    rw [P.ok, hok, hk]; rfl
  rw [← pair_text, readP_text hok2 (by rw [P.size]; omega) (by rw [P.nest]; omega)]
  show (if pairB = pairB then bothO p.shp p.shp else none) = _
  rw [if_pos rfl, ha]; rfl

theorem pairW_eq (S : ByteArray) : ((((⟨#[40, 112, 97, 105, 114, 32]⟩ ++ S) ++ ⟨#[32]⟩) ++ S) ++ ⟨#[41]⟩ : ByteArray).data.toList = [40, 112, 97, 105, 114, 32] ++ (S.data.toList ++ (32 :: (S.data.toList ++ [41]))) := by
  simp [ByteArray.data_append, Array.toList_append]

set_option maxHeartbeats 1000000 in
theorem lawFnShape (A : Option Addr) (n c : Nat) (w : World) (hr : ByteRow w A n) (hc : n ≤ c) (hn : n ≤ maxLen) : Calls Try.prog 3 #[.slice A n c] w fun e w' => e = .returned (.bool true) ∧ Below w.heap.size w w' := by
  have hd := Lib.hid (drawShp_any A n c w hr hc)
  unfold maxLen at hn
  clear hr
  by_cases hlen : 1048576 < n
  · have hlen' : (1048576 : Int) < (n : Int) := by omega
    go_enter Try.func3, Try.ntmps3
    go_wp2_with fail
    go_ret
    exact ⟨rfl, Below.refl _ _⟩
  · have hlen' : ¬ (1048576 : Int) < (n : Int) := by omega
    go_enter Try.func3, Try.ntmps3
    go_wp2_with fail
    refine Calls.mono hd.out ?_
    rintro e w1 ⟨s, hs, rfl, hb1⟩
    have hb1' := Lib.hid hb1
    have h1 := Lib.hid (fun W => implShp_any s W)
    have h2 := Lib.hid (fun W => specShp_any s W)
    clear hb1
    cases hsh : shpO (readP s.data.toList) with
    | none =>
      rw [hsh, shV_none] at h1 h2
      clear hsh
      go_wp2_with fail
      refine Calls.mono (h1.out _) ?_
      rintro e w2 ⟨rfl, hb2⟩
      go_wp2_with fail
      refine Calls.mono (h2.out _) ?_
      rintro e w3 ⟨rfl, hb3⟩
      go_wp2_with fail
      go_ret
      exact ⟨rfl, below_step (below_step hb1'.out (Nat.le_refl _) hb2) (Nat.le_refl _) hb3⟩
    | some a =>
      rw [hsh] at h1 h2
      have h3 := Lib.hid (fun W => implVal_any s W)
      have hval : valO (readP s.data.toList) = true := by
        cases hrd : readP s.data.toList with
        | none => rw [hrd] at hsh; cases hsh
        | some p => rw [hrd] at hsh; exact P.shp_val hsh
      rw [hval] at h3
      have hal : a.length ≤ 192 := by
        cases hrd : readP s.data.toList with
        | none => rw [hrd] at hsh; cases hsh
        | some p =>
          rw [hrd] at hsh
          have := P.shp_len hsh
          rw [← (readP_back hrd).1, ← ba_size] at this
          omega
      obtain ⟨S, hS⟩ : ∃ S : ByteArray, S = ((((⟨#[40, 112, 97, 105, 114, 32]⟩ ++ s) ++ ⟨#[32]⟩) ++ s) ++ ⟨#[41]⟩ : ByteArray) := ⟨_, rfl⟩
      have h4 := Lib.hid (fun W => implShp_any S W)
      have hpr : shpO (readP S.data.toList) = some (bothS a a) := by
        rw [hS, pairW_eq]
        cases hrd : readP s.data.toList with
        | none => rw [hrd] at hsh; cases hsh
        | some p =>
          rw [hrd] at hsh
          exact pair_read hrd (by rw [← ba_size]; exact hs) hsh
      rw [hpr] at h4
      have hal' : (⟨a.toArray⟩ : ByteArray).size ≤ 192 := hal
      have he := Lib.hid (bothW_eq a a)
      have haa : (a == a) = true := by simp
      obtain ⟨B, hB⟩ : ∃ B : ByteArray, B = ⟨(bothS a a).toArray⟩ := ⟨_, rfl⟩
      have hbb : (B.toList == B.toList) = true := by simp
      rw [show shV (some (bothS a a)) = .tuple #[.string B, .bool true] from by rw [hB]; rfl] at h4
      rw [← hB] at he
      obtain ⟨a', ha'⟩ : ∃ a' : ByteArray, a' = ⟨a.toArray⟩ := ⟨_, rfl⟩
      rw [show shV (some a) = .tuple #[.string a', .bool true] from by rw [ha']; rfl] at h1 h2
      rw [← ha'] at hal' he
      have haa' : (a'.toList == a'.toList) = true := by simp
      have hS' := Lib.hid hS
      clear hsh hval hpr hB ha' hal haa hS
      go_wp2_with fail
      refine Calls.mono (h1.out _) ?_
      rintro e w2 ⟨rfl, hb2⟩
      go_wp2_with fail
      refine Calls.mono (h2.out _) ?_
      rintro e w3 ⟨rfl, hb3⟩
      have hb13 := Lib.hid (below_step (below_step hb1'.out (Nat.le_refl _) hb2) (Nat.le_refl _) hb3)
      clear hb2 hb3
      go_wp2_with fail
      rw [← hS'.out]
      refine Calls.mono (h4.out _) ?_
      rintro e w4 ⟨rfl, hb4⟩
      go_wp2_with fail
      refine Calls.mono (h3.out _) ?_
      rintro e w5 ⟨rfl, hb5⟩
      have hb15 := Lib.hid (below_step (below_step hb13.out (Nat.le_refl _) hb4) (Nat.le_refl _) hb5)
      clear hb4 hb5
      go_wp2_with fail
      go_ret
      exact ⟨by rw [he.out]; simp, hb15.out⟩

end Go.Proofs.Ytijplnaoecoblaa
