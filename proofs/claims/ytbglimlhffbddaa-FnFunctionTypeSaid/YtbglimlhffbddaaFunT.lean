/- Function types: impl.writeFormula, FunctionType of the program and of the model. -/
import Derived.Test.YtbglimlhffbddaaPushLaw
import Derived.Test.YtbglimlhffbddaaValidS
import Derived.Test.YtbglimlhffbddaaMathG
namespace Go.Proofs.Ytbglimlhffbddaa
set_option linter.unusedVariables false
open Go.RowKit

/-- What is written: a formula that is not too great. -/
def writeO (g : F) : Option F := if g.size ≤ 60 then some g else none

theorem writeF_any (g : F) (hok : g.ok = true) (hs : g.size ≤ 700) (w : World) : Calls Try.prog 12 #[.iface (ft g) (fi g)] w fun e w' => e = .returned (.tuple #[.string (textS (writeO g)), .bool (writeO g).isSome]) ∧ Below w.heap.size w w' := by
  have hm := fun w => size_method g w
  have hc := fun x w => size_call g x w
  have hm2 := fun w => text_method g w
  have hc2 := fun x w => text_call g x w
  have htx := Lib.hid (text_of g hok (by omega))
  have hsz := Lib.hid (size_any g (by omega))
  by_cases h : g.size ≤ 60
  · rw [show writeO g = some g from if_pos h, show (some g).isSome = true from rfl, show textS (some g) = ⟨g.text.toArray⟩ from rfl]
    go_enter Try.func12, Try.ntmps12
    go_wp2_with fail
    refine Calls.mono (hsz.out _) ?_
    rintro e w3 ⟨rfl, hb3⟩
    go_wp2_with fail
    refine Calls.mono (htx.out _) ?_
    rintro e w4 ⟨rfl, hb4⟩
    go_wp2_with fail
    go_ret2
    exact ⟨rfl, below_step hb3 (Nat.le_refl _) hb4⟩
  · rw [show writeO g = none from if_neg h, show (none : Option F).isSome = false from rfl, show textS none = ⟨#[]⟩ from rfl]
    go_enter Try.func12, Try.ntmps12
    go_wp2_with fail
    refine Calls.mono (hsz.out _) ?_
    rintro e w3 ⟨rfl, hb3⟩
    go_wp2_with fail
    go_ret2
    exact ⟨rfl, hb3⟩

/-- The function type. -/
def funF : Option F → Option F → Option F
  | some f, some g => writeO (.no (.an f (.no g)))
  | _, _ => none

theorem implFun_any (s t : ByteArray) (w : World) : Calls Try.prog 6 #[.string s, .string t] w fun e w' => e = .returned (.tuple #[.string (textS (funF (readF s.data.toList) (readF t.data.toList))), .bool (funF (readF s.data.toList) (readF t.data.toList)).isSome]) ∧ Below w.heap.size w w' := by
  have h1 := fun W => readFormula_any s W
  have h2 := fun W => readFormula_any t W
  have hw := Lib.hid (fun f g (hf : readF s.data.toList = some f) (hg : readF t.data.toList = some g) W => writeF_any (.no (.an f (.no g))) (by rw [F.ok, F.ok, F.ok, readF_ok hf, readF_ok hg]; rfl) (by have := readF_size hf; have := readF_size hg; rw [F.size, F.size, F.size]; omega) W)
  unfold RFPost at h1 h2
  generalize readF s.data.toList = o at *
  generalize readF t.data.toList = p at *
  cases o with
  | none =>
    rw [show funF none p = none by unfold funF; split <;> simp_all, show textS none = ⟨#[]⟩ from rfl, show (none : Option F).isSome = false from rfl]
    have h1' := Lib.hid h1
    have h2' := Lib.hid h2
    clear h1 h2
    go_enter Try.func6, Try.ntmps6
    go_wp2_with fail
    refine (h1'.out _).mono ?_
    rintro e w1 ⟨hb1, rfl⟩
    go_wp2_with fail
    refine (h2'.out _).mono ?_
    rintro e w2 ⟨hb2, rfl⟩
    go_wp2_with fail
    go_ret2
    exact ⟨rfl, below_step hb1 (Nat.le_refl _) hb2⟩
  | some f =>
    cases p with
    | none =>
      rw [show funF (some f) none = none from rfl, show textS none = ⟨#[]⟩ from rfl, show (none : Option F).isSome = false from rfl]
      have h1' := Lib.hid h1
      have h2' := Lib.hid h2
      clear h1 h2
      go_enter Try.func6, Try.ntmps6
      go_wp2_with fail
      refine (h1'.out _).mono ?_
      rintro e w1 ⟨hb1, rfl⟩
      go_wp2_with fail
      refine (h2'.out _).mono ?_
      rintro e w2 ⟨hb2, rfl⟩
      go_wp2_with fail
      go_ret2
      exact ⟨rfl, below_step hb1 (Nat.le_refl _) hb2⟩
    | some g =>
      have hw' := Lib.hid (hw.out f g rfl rfl)
      rw [show funF (some f) (some g) = writeO (.no (.an f (.no g))) from rfl]
      rw [show fi (.no (.an f (.no g))) = .agg #[.iface 43 (.agg #[.iface (ft f) (fi f), .iface 41 (.agg #[.iface (ft g) (fi g)])])] from rfl, show ft (.no (.an f (.no g))) = 41 from rfl] at hw'
      rw [show fvO (some f) = .iface (ft f) (fi f) from rfl, show (some f).isSome = true from rfl] at h1
      rw [show fvO (some g) = .iface (ft g) (fi g) from rfl, show (some g).isSome = true from rfl] at h2
      generalize textS (writeO (.no (.an f (.no g)))) = z at *
      generalize (writeO (.no (.an f (.no g)))).isSome = b at *
      have h1' := Lib.hid h1
      have h2' := Lib.hid h2
      clear h1 h2
      go_enter Try.func6, Try.ntmps6
      go_wp2_with fail
      refine (h1'.out _).mono ?_
      rintro e w1 ⟨hb1, rfl⟩
      go_wp2_with fail
      refine (h2'.out _).mono ?_
      rintro e w2 ⟨hb2, rfl⟩
      go_wp2_with fail
      refine (hw'.out _).mono ?_
      rintro e w3 ⟨rfl, hb3⟩
      go_wp2_with fail
      go_ret2
      exact ⟨rfl, below_step (below_step hb1 (Nat.le_refl _) hb2) (Nat.le_refl _) hb3⟩

theorem ba_list (a b : ByteArray) : (a ++ b).data.toList = a.data.toList ++ b.data.toList := by simp

/-- What the model writes. -/
def funB (s t : ByteArray) : ByteArray := ⟨#[40, 45, 32, 40, 42, 32]⟩ ++ s ++ ⟨#[32, 40, 45, 32]⟩ ++ t ++ ⟨#[41, 41, 41]⟩
theorem funB_text {s t : ByteArray} {f g : F} (hf : readF s.data.toList = some f) (hg : readF t.data.toList = some g) : funB s t = ⟨(F.no (.an f (.no g))).text.toArray⟩ := by
  have e1 := readF_back hf; have e2 := readF_back hg
  have : (funB s t).data.toList = (F.no (.an f (.no g))).text := by
    unfold funB
    rw [ba_list, ba_list, ba_list, ba_list, e1, e2]
    simp [F.text]
  rw [← this]
theorem funB_read {s t : ByteArray} {f g : F} (hf : readF s.data.toList = some f) (hg : readF t.data.toList = some g) : readF (funB s t).data.toList = writeO (.no (.an f (.no g))) := by
  rw [funB_text hf hg]
  have h1 := readF_ok hf; have h2 := readF_ok hg
  have h3 := readF_size hf; have h4 := readF_size hg
  exact readF_text (by rw [F.ok, F.ok, F.ok, h1, h2]; rfl) (by rw [F.size, F.size, F.size]; omega)

theorem specFun_any (s t : ByteArray) (hs : s.size ≤ 1048576) (ht : t.size ≤ 1048576) (w : World) : Calls Try.prog 7 #[.string s, .string t] w fun e w' => e = .returned (.tuple #[.string (textS (funF (readF s.data.toList) (readF t.data.toList))), .bool (funF (readF s.data.toList) (readF t.data.toList)).isSome]) ∧ Below w.heap.size w w' := by
  have h1 := fun W => specValid_any s W
  have h2 := fun W => specValid_any t W
  have h3 := fun W => specValid_any (funB s t) W
  have hr := Lib.hid (fun f g => @funB_read s t f g)
  have hx := Lib.hid (fun f g => @funB_text s t f g)
  generalize readF s.data.toList = o at *
  generalize readF t.data.toList = p at *
  cases o with
  | none =>
    rw [show funF none p = none by unfold funF; split <;> simp_all, show textS none = ⟨#[]⟩ from rfl, show (none : Option F).isSome = false from rfl]
    rw [show (none : Option F).isSome = false from rfl] at h1
    have h1' := Lib.hid h1
    clear h1 h2 h3
    go_enter Try.func7, Try.ntmps7
    go_wp2_with fail
    refine (h1'.out _).mono ?_
    rintro e w1 ⟨rfl, hb1⟩
    go_wp2_with fail
    go_ret2
    exact ⟨rfl, hb1⟩
  | some f =>
    rw [show (some f).isSome = true from rfl] at h1
    cases p with
    | none =>
      rw [show funF (some f) none = none from rfl, show textS none = ⟨#[]⟩ from rfl, show (none : Option F).isSome = false from rfl]
      rw [show (none : Option F).isSome = false from rfl] at h2
      have h1' := Lib.hid h1
      have h2' := Lib.hid h2
      clear h1 h2 h3
      go_enter Try.func7, Try.ntmps7
      go_wp2_with fail
      refine (h1'.out _).mono ?_
      rintro e w1 ⟨rfl, hb1⟩
      go_wp2_with fail
      refine (h2'.out _).mono ?_
      rintro e w2 ⟨rfl, hb2⟩
      go_wp2_with fail
      go_ret2
      exact ⟨rfl, below_step hb1 (Nat.le_refl _) hb2⟩
    | some g =>
      rw [show (some g).isSome = true from rfl] at h2
      rw [show funF (some f) (some g) = writeO (.no (.an f (.no g))) from rfl]
      rw [hr.out f g rfl rfl] at h3
      have hx' := hx.out f g rfl rfl
      have h1' := Lib.hid h1
      have h2' := Lib.hid h2
      clear h1 h2
      by_cases h : (F.no (.an f (.no g))).size ≤ 60
      · rw [show writeO (.no (.an f (.no g))) = some (.no (.an f (.no g))) from if_pos h] at h3 ⊢
        rw [show textS (some (.no (.an f (.no g)))) = funB s t from hx'.symm, show (some (F.no (.an f (.no g)))).isSome = true from rfl]
        rw [show (some (F.no (.an f (.no g)))).isSome = true from rfl] at h3
        unfold funB at *
        have h3' := Lib.hid h3
        clear h3 h hx'
        go_enter Try.func7, Try.ntmps7
        go_wp2_with fail
        refine (h1'.out _).mono ?_
        rintro e w1 ⟨rfl, hb1⟩
        go_wp2_with fail
        refine (h2'.out _).mono ?_
        rintro e w2 ⟨rfl, hb2⟩
        go_wp2_with fail
        refine (h3'.out _).mono ?_
        rintro e w3 ⟨rfl, hb3⟩
        go_wp2_with fail
        go_ret2
        exact ⟨rfl, below_step (below_step hb1 (Nat.le_refl _) hb2) (Nat.le_refl _) hb3⟩
      · rw [show writeO (.no (.an f (.no g))) = none from if_neg h] at h3 ⊢
        rw [show textS none = ⟨#[]⟩ from rfl, show (none : Option F).isSome = false from rfl]
        rw [show (none : Option F).isSome = false from rfl] at h3
        unfold funB at *
        have h3' := Lib.hid h3
        clear h3 h hx'
        go_enter Try.func7, Try.ntmps7
        go_wp2_with fail
        refine (h1'.out _).mono ?_
        rintro e w1 ⟨rfl, hb1⟩
        go_wp2_with fail
        refine (h2'.out _).mono ?_
        rintro e w2 ⟨rfl, hb2⟩
        go_wp2_with fail
        refine (h3'.out _).mono ?_
        rintro e w3 ⟨rfl, hb3⟩
        go_wp2_with fail
        go_ret2
        exact ⟨rfl, below_step (below_step hb1 (Nat.le_refl _) hb2) (Nat.le_refl _) hb3⟩

theorem lawFunctionType (s : ByteArray) (_ : s.size ≤ maxLen) (t : ByteArray) (_ : t.size ≤ maxLen) (w : World) : Calls Try.prog 4 #[.string s, .string t] w fun e w' => e = .returned (.bool true) ∧ Below w.heap.size w w' := by
  have h1 := Lib.hid (fun h h' W => specFun_any s t h h' W)
  have h2 := fun W => implFun_any s t W
  generalize textS (funF (readF s.data.toList) (readF t.data.toList)) = z at h1 h2
  generalize (funF (readF s.data.toList) (readF t.data.toList)).isSome = b at h1 h2
  have h2' := Lib.hid h2
  clear h2
  by_cases hlen : 1048576 < s.size
  · go_enter Try.func4, Try.ntmps4
    go_wp2_with fail
    go_ret
    exact ⟨rfl, (by repeat (with_reducible first | exact hbel | exact Below.refl _ _ | refine Below.drew ?_ | refine Below.drewN ?_ _ | refine Below.alloc ?_ (by first | (simp; done) | (simp; omega) | omega | (have := Below.size hbel; simp; omega) | (have := Below.size hbel; omega)) _ | refine Below.setCell ?_ (by first | (simp; done) | (simp; omega) | omega) _))⟩
  · by_cases hlen' : 1048576 < t.size
    · go_enter Try.func4, Try.ntmps4
      go_wp2_with fail
      go_ret
      exact ⟨rfl, (by repeat (with_reducible first | exact hbel | exact Below.refl _ _ | refine Below.drew ?_ | refine Below.drewN ?_ _ | refine Below.alloc ?_ (by first | (simp; done) | (simp; omega) | omega | (have := Below.size hbel; simp; omega) | (have := Below.size hbel; omega)) _ | refine Below.setCell ?_ (by first | (simp; done) | (simp; omega) | omega) _))⟩
    · have h1' := Lib.hid (h1.out (by omega) (by omega))
      clear h1
      go_enter Try.func4, Try.ntmps4
      go_wp2_with fail
      refine (h1'.out _).mono ?_
      rintro e w1 ⟨rfl, hb1⟩
      go_wp2_with fail
      refine (h2'.out _).mono ?_
      rintro e w2 ⟨rfl, hb2⟩
      cases b
      all_goals
        go_wp2_with fail
        go_ret
        exact ⟨rfl, below_step hb1 (Nat.le_refl _) hb2⟩

end Go.Proofs.Ytbglimlhffbddaa
