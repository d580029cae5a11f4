/- What the walks of TypeDual share. -/
import Derived.Test.YtdbdcfijeeelkaaTyRead
import Derived.Test.YtdbdcfijeeelkaaMathD
import Derived.Test.YtdbdcfijeeelkaaReadF
namespace Go.Proofs.Ytdbdcfijeeelkaa
set_option linter.unusedVariables false
open Go.RowKit

theorem dN_at {l : List Bs} {j : Nat} {s : Bs} (h : l[j]? = some s) : (l.take (j + 1)).map (fun s => (⟨(swapB s).toArray⟩ : ByteArray)) = (l.take j).map (fun s => (⟨(swapB s).toArray⟩ : ByteArray)) ++ [⟨(swapB s).toArray⟩] := by
  rw [List.take_add_one, h, List.map_append]; rfl
theorem dT_at {l : List F} {j : Nat} {f : F} (h : l[j]? = some f) : (l.take (j + 1)).map (fun f => (⟨f.dual.text.toArray⟩ : ByteArray)) = (l.take j).map (fun f => (⟨f.dual.text.toArray⟩ : ByteArray)) ++ [⟨f.dual.text.toArray⟩] := by
  rw [List.take_add_one, h, List.map_append]; rfl

theorem app_facts {wr W w5 : World} {lo g n cap : Nat} {E E' : TypeId} {vA vB : Value} {j k : Nat} {xs ys : List Value} (own1 : wr.ownsRow lo E 1 vA j xs) (own2 : wr.ownsRow lo E' 1 vB k ys) (hap : ∀ b, vA.ownBlock = some b → vB.ownBlock ≠ some b)
    (hW : Below wr.heap.size wr W) (gr : W.grownBy w5 vA.ownBlock) (hat : vA.ownBlock = some g ∨ wr.heap.size ≤ g) :
    w5.ownsRow lo E' 1 vB k ys ∧ (∀ b, (Value.slice (some ⟨g, 0, none⟩) n cap).ownBlock = some b → vB.ownBlock ≠ some b) := by
  have o2 := own_below own2 hW
  refine ⟨own_same o2 (fun b hb => gr.block b (o2.lt b hb).2 (fun e => hap b e.symm hb)), fun b hb e => ?_⟩
  have eg : g = b := by simpa [Value.ownBlock] using hb
  subst eg
  rcases hat with h | h
  · exact hap _ h e
  · have := (own2.lt _ e).2; omega
theorem sb_grown {w0 W w1 : World} {r : Nat} {row : Option Nat} (h : SB w0 r W) (hg : W.grownBy w1 row) (hr : ∀ k, row = some k → w0.heap.size ≤ k) : SB w0 r w1 :=
  ⟨Nat.le_trans h.size hg.size, fun j hj hne => (hg.block j (Nat.lt_of_lt_of_le hj h.size) (fun e => by have := hr j e.symm; omega)).trans (h.block j hj hne)⟩
theorem readWh_ok {z : ByteArray} {o : Option F} {f : F} (h : readWh z = some o) (e : o = some f) : f.ok = true ∧ f.size ≤ 60 := by
  subst e
  unfold readWh at h
  split at h
  · cases h
  · cases hr : readF z.data.toList with
    | none => rw [hr] at h; cases h
    | some g =>
      rw [hr] at h
      injection h with h; injection h with h; subst h
      exact ⟨readF_ok hr, readF_size hr⟩
theorem isName_len {c : UInt8} {d : Bs} (h : isName (c :: d) = true) : d.length ≤ 3 := by
  simp only [isName, isVar, isCov, nameB, Bool.or_eq_true, Bool.and_eq_true, decide_eq_true_iff] at h
  rcases h with h | h <;> exact h.1.2
theorem swapC_or {c : UInt8} (h : varB c = true ∨ covB c = true) : varB (swapC c) = true ∨ covB (swapC c) = true := by
  obtain ⟨_, h1, h2⟩ := swapC_swapC h
  rw [h1, h2]; exact h.symm

end Go.Proofs.Ytdbdcfijeeelkaa
