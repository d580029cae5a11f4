/- Calls of the methods text, uses and renamed of programs' types. The methods 'text' of programs. -/
import Derived.Test.YtaagbnbekfogiaaGreatDoorPiV
import Derived.Test.YtaagbnbekfogiaaGreatDoorKind
import Derived.Test.YtaagbnbekfogiaaGreatDoorNameF
import Derived.Test.YtaagbnbekfogiaaGreatDoorMakeP
import Derived.Test.YtaagbnbekfogiaaGreatDoorMathU
import Derived.Test.YtaagbnbekfogiaaGreatDoorListT
import Derived.Lib.SmallJoins
namespace Go.Proofs.YtaagbnbekfogiaaGreatDoor
set_option linter.unusedVariables false
open Go.RowKit
set_option maxRecDepth 100000
theorem text_c (p : P) (x : Array Value) (w : World) : (callFunc (textPFn p) x).run Tryz.prog w = .ok (.enter (textPFn p) x) w := mfn_call (fun x w => by kernel_rfl) (fun x w => by kernel_rfl) (fun x w => by kernel_rfl) (fun x w => by kernel_rfl) p x w
theorem uses_c (p : P) (x : Array Value) (w : World) : (callFunc (usesFn p) x).run Tryz.prog w = .ok (.enter (usesFn p) x) w := mfn_call (fun x w => by kernel_rfl) (fun x w => by kernel_rfl) (fun x w => by kernel_rfl) (fun x w => by kernel_rfl) p x w
theorem renamed_c (p : P) (x : Array Value) (w : World) : (callFunc (renamedFn p) x).run Tryz.prog w = .ok (.enter (renamedFn p) x) w := mfn_call (fun x w => by kernel_rfl) (fun x w => by kernel_rfl) (fun x w => by kernel_rfl) (fun x w => by kernel_rfl) p x w

end Go.Proofs.YtaagbnbekfogiaaGreatDoor

namespace Go.Proofs.YtaagbnbekfogiaaGreatDoor
set_option linter.unusedVariables false
open Go.RowKit

theorem three_kept (w : World) (x y z : Value) (E : TypeId) : Hid (∀ W', Below (w.heap.size + 1) (w.alloc (.cells #[x, y, z] E)) W' → W'.cell? ⟨w.heap.size, 0, none⟩ = some x ∧ W'.cell? ⟨w.heap.size, 1, none⟩ = some y ∧ W'.cell? ⟨w.heap.size, 2, none⟩ = some z) := fun W' h => by
  have hb := (h.block w.heap.size (by omega)).trans (heap_alloc_new w _)
  exact ⟨block_cells hb 0 _ rfl, block_cells hb 1 _ rfl, block_cells hb 2 _ rfl⟩

/-- Each program's type answers with its text. -/
def TXP (p : P) : Prop := ∀ (w : World) (D : Nat → Prop) (x : Value), PI w D p x → (∀ g, D g → g < w.heap.size) → Calls Tryz.prog (textPFn p) #[x] w fun e w' => e = .returned (str p.text) ∧ Below w.heap.size w w'

/-- The head of a binder. -/
theorem bhead_any (c : UInt8) (d : Bs) (b : Value) (w : World) : Calls Tryz.prog 110 #[.agg #[.int .u8 c.toNat, str d, b]] w fun e w' => e = .returned (str (bhead (c :: d))) ∧ Below w.heap.size w w' := by
  cases hv : varB c
  · rw [show bhead (c :: d) = muB from by simp [bhead, firstIs, hv]]
    go_enter Tryz.func110, Tryz.ntmps110
    go_wp2_with (go_at_call 100; refine Calls.mono (isVariable_any c d _) ?_; rintro e w1 ⟨rfl, hb1⟩)
    go_ret
    exact ⟨rfl, below_step (by repeat (with_reducible first | exact hbel | exact Below.refl _ _ | refine Below.drew ?_ | refine Below.drewN ?_ _ | refine Below.alloc ?_ (by first | (simp; done) | (simp; omega) | omega | (have := Below.size hbel; simp; omega) | (have := Below.size hbel; omega)) _ | refine Below.setCell ?_ (by first | (simp; done) | (simp; omega) | omega) _)) (by simp) hb1⟩
  · rw [show bhead (c :: d) = tmuB from by simp [bhead, firstIs, hv]]
    go_enter Tryz.func110, Tryz.ntmps110
    go_wp2_with (go_at_call 100; refine Calls.mono (isVariable_any c d _) ?_; rintro e w1 ⟨rfl, hb1⟩)
    go_ret
    exact ⟨rfl, below_step (by repeat (with_reducible first | exact hbel | exact Below.refl _ _ | refine Below.drew ?_ | refine Below.drewN ?_ _ | refine Below.alloc ?_ (by first | (simp; done) | (simp; omega) | omega | (have := Below.size hbel; simp; omega) | (have := Below.size hbel; omega)) _ | refine Below.setCell ?_ (by first | (simp; done) | (simp; omega) | omega) _)) (by simp) hb1⟩

theorem bel2 {w w1 w2 : World} {o : Obj} (hb1 : Below (w.alloc o).drew.heap.size (w.alloc o).drew w1) (hb2 : Below w1.heap.size w1 w2) : Below w.heap.size w w2 :=
  below_step (below_step ((Below.refl _ _).alloc (Nat.le_refl _) _).drew (by simp) hb1) (Nat.le_refl _) hb2
theorem keep3 {S : World → Prop} {w w1 w2 w3 : World} {o : Obj} (h : ∀ W', Below (w.heap.size + 1) (w.alloc o) W' → S W') (h1 : Below (w.alloc o).drew.heap.size (w.alloc o).drew w1) (h2 : Below w1.heap.size w1 w2) (h3 : Below w2.heap.size w2 w3) : S w3 :=
  h _ (below_step (below_step (below_step (Below.refl _ _).drew (by simp) h1) (by simp) h2) (by simp) h3)
theorem textP_nm (s : Bs) (hs : isName s = true) : TXP (.nm s) := by
  intro w D x h _
  obtain ⟨c, d, rfl, rfl⟩ := h
  rw [show textPFn (.nm (c :: d)) = 191 from by simp [textPFn, mfn]]
  have := (isName_in hs).1
  exact nameText_any c d (var_or hs) (by simp at this; omega) w

set_option maxRecDepth 100000 in
theorem textP_bd (s : Bs) (b : P) (hs : isName s = true) (hl : b.text.length ≤ 9000) (hb : Hid (TXP b)) : TXP (.bd s b) := by
  intro w D x h hD
  obtain ⟨c, d, y, rfl, rfl, hy⟩ := h
  show Calls _ 199 _ _ _
  have mb := fun w => text_m hy w
  have cb := fun x w => text_c b x w
  have hy' := Lib.hid hy
  have hD' := Lib.hid hD
  have h4 := (isName_in hs).1
  have hv := var_or hs
  have hS := three_kept w (.int .u8 c.toNat) (str d) (.iface (pt b) y) 46
  clear hy hD
  have hbh := (bhead_in (c :: d)).1
  generalize hh : bhead (c :: d) = hd at *
  have hT := Lib.hid (show (P.bd (c :: d) b).text = [40] ++ hd ++ [32] ++ (c :: d) ++ [32] ++ b.text ++ [41] from by
    rw [← hh]; simp [P.text, P.tree, T.text, textAll])
  have hK : Hid (∀ W, Calls Tryz.prog 110 #[.agg #[.int .u8 c.toNat, str d, .iface (pt b) y]] W fun e w' => e = .returned (str hd) ∧ Below W.heap.size W w') := fun W => by rw [← hh]; exact bhead_any c d _ W
  have hN := Lib.hid (fun W => nameText_any c d hv (by simp at h4; omega) W)
  generalize hn : c :: d = nm at hN hT
  have h4' : nm.length ≤ 4 := by rw [← hn]; exact h4
  clear hh hn
  have k1 := fun (w : World) => run_string_add_sum (P := Tryz.prog) w ⟨#[40]⟩ ⟨hd.toArray⟩ (by show 1 + hd.length ≤ _; omega)
  have k2 := fun (w : World) => run_string_add_sum (P := Tryz.prog) w (⟨#[40]⟩ ++ ⟨hd.toArray⟩) ⟨#[32]⟩ (by rw [ByteArray.size_append]; show 1 + hd.length + 1 ≤ _; omega)
  have k3 := fun (w : World) => run_string_add_sum (P := Tryz.prog) w (⟨#[40]⟩ ++ ⟨hd.toArray⟩ ++ ⟨#[32]⟩) ⟨nm.toArray⟩ (by rw [ByteArray.size_append, ByteArray.size_append]; show 1 + hd.length + 1 + nm.length ≤ _; omega)
  have k4 := fun (w : World) => run_string_add_sum (P := Tryz.prog) w (⟨#[40]⟩ ++ ⟨hd.toArray⟩ ++ ⟨#[32]⟩ ++ ⟨nm.toArray⟩) ⟨#[32]⟩ (by rw [ByteArray.size_append, ByteArray.size_append, ByteArray.size_append]; show 1 + hd.length + 1 + nm.length + 1 ≤ _; omega)
  have k5 := fun (w : World) => run_string_add_sum (P := Tryz.prog) w (⟨#[40]⟩ ++ ⟨hd.toArray⟩ ++ ⟨#[32]⟩ ++ ⟨nm.toArray⟩ ++ ⟨#[32]⟩) ⟨b.text.toArray⟩ (by rw [ByteArray.size_append, ByteArray.size_append, ByteArray.size_append, ByteArray.size_append]; show 1 + hd.length + 1 + nm.length + 1 + b.text.length ≤ _; omega)
  have k6 := fun (w : World) => run_string_add_sum (P := Tryz.prog) w (⟨#[40]⟩ ++ ⟨hd.toArray⟩ ++ ⟨#[32]⟩ ++ ⟨nm.toArray⟩ ++ ⟨#[32]⟩ ++ ⟨b.text.toArray⟩) ⟨#[41]⟩ (by rw [ByteArray.size_append, ByteArray.size_append, ByteArray.size_append, ByteArray.size_append, ByteArray.size_append]; show 1 + hd.length + 1 + nm.length + 1 + b.text.length + 1 ≤ _; omega)
  have hE : (⟨#[40]⟩ ++ ⟨hd.toArray⟩ ++ ⟨#[32]⟩ ++ ⟨nm.toArray⟩ ++ ⟨#[32]⟩ ++ ⟨b.text.toArray⟩ ++ ⟨#[41]⟩ : ByteArray) = ⟨([40] ++ hd ++ [32] ++ nm ++ [32] ++ b.text ++ [41]).toArray⟩ := by
    rw [show (⟨#[40]⟩ : ByteArray) = ⟨[40].toArray⟩ from rfl, show (⟨#[32]⟩ : ByteArray) = ⟨[32].toArray⟩ from rfl, show (⟨#[41]⟩ : ByteArray) = ⟨[41].toArray⟩ from rfl]
    simp only [ba_append]
  have hE' := Lib.hid hE
  clear hE
  go_enter Tryz.func199, Tryz.ntmps199
  go_wp2_with fail
  go_region_held3 (fun w' => w'.cell? ⟨w.heap.size, 0, none⟩ = some (.int .u8 c.toNat) ∧ w'.cell? ⟨w.heap.size, 1, none⟩ = some (str d) ∧ w'.cell? ⟨w.heap.size, 2, none⟩ = some (.iface (pt b) y))
    (first | exact keep0 hS.out | exact keep1 hS.out hb1 | exact keep2 hS.out hb1 hb2 | exact keep3 hS.out hb1 hb2 hb3)
    (first
      | (go_at_call 110; refine Calls.mono (hK.out _) ?_; rintro e w1 ⟨rfl, hb1⟩)
      | (go_at_call 191; refine Calls.mono (hN.out _) ?_; rintro e w2 ⟨rfl, hb2⟩)
      | (refine Calls.mono (hb.out _ D _ (hy'.out.below (bel2 hb1 hb2) hD'.out) (fun g hg => Nat.lt_of_lt_of_le (hD'.out g hg) (bel2 hb1 hb2).size)) ?_; rintro e w3 ⟨rfl, hb3⟩))
  go_wp2_with fail
  go_ret
  rw [hT.out, hE'.out]
  exact ⟨rfl, below_step (bel2 hb1 hb2) (Nat.le_refl _) hb3⟩

/-- What form.text has put together behind some parts. -/
def formText (h : Bs) (l : List P) : Bs := [40] ++ h ++ l.flatMap fun q => 32 :: q.text
theorem formText_take {h : Bs} {l : List P} {j : Nat} {q : P} (hq : l[j]? = some q) : formText h (l.take (j + 1)) = formText h (l.take j) ++ [32] ++ q.text := by
  unfold formText
  rw [List.take_add_one, hq]; simp
theorem formText_all {p : P} {h : Bs} {ks : List P} (hf : IsForm p h ks) : formText h ks ++ [41] = p.text := by
  cases p with
  | nm s => exact absurd hf (by simp [IsForm])
  | bd s b => exact absurd hf (by simp [IsForm])
  | f1 h' p => obtain ⟨rfl, rfl⟩ := hf; simp [formText, P.text, P.tree, T.text, textAll]
  | f2 h' p q => obtain ⟨rfl, rfl⟩ := hf; simp [formText, P.text, P.tree, T.text, textAll]
theorem formText_len (h : Bs) (l : List P) (j : Nat) : (formText h (l.take j)).length ≤ (formText h l).length := by
  conv => rhs; rw [← List.take_append_drop j l]
  simp only [formText, List.flatMap_append, List.length_append]
  omega

set_option maxRecDepth 100000 in
theorem text_form (p : P) (h : Bs) (ks : List P) (hf : IsForm p h ks) (hk : ∀ q ∈ ks, Hid (TXP q)) (hn : (formText h ks).length ≤ 9000) (w : World) (D : Nat → Prop) (x : Value) (hx : PI w D p x) (hD : ∀ g, D g → g < w.heap.size) :
    Calls Tryz.prog 206 #[x] w fun e w' => e = .returned (str (formText h ks ++ [41])) ∧ Below w.heap.size w w' := by
  obtain ⟨g, n, rfl, hg, hc⟩ := hx.form hf
  have hgw := hD g hg
  have hks := hf.len
  have hk' := Lib.hid hk
  have hD' := Lib.hid hD
  have hc' := Lib.hid hc
  have hh : h.length ≤ 8000 + 1000 := by simp [formText] at hn; omega
  have k0 := fun (w : World) => run_string_add_sum (P := Tryz.prog) w ⟨#[40]⟩ ⟨h.toArray⟩ (by show 1 + h.length ≤ _; omega)
  have e0 : (⟨#[40]⟩ : ByteArray) ++ ⟨h.toArray⟩ = ⟨(formText h []).toArray⟩ := by rw [show (⟨#[40]⟩ : ByteArray) = ⟨[40].toArray⟩ from rfl, ba_append]; simp [formText]
  rw [e0] at k0
  clear hk hD hc hx
  go_enter Tryz.func206, Tryz.ntmps206
  go_wp2_with fail
  go_loopw [3, 12] (fun m i wr => ∃ j : Nat, j ≤ ks.length ∧ i = .int .i64 j ∧ m = str (formText h (ks.take j)) ∧ Below w.heap.size w wr) (fun _ i _ => ks.length - (intOf i).toNat)
  case atStart => exact ⟨0, Nat.zero_le _, rfl, by simp, (by repeat (with_reducible first | exact hbel | exact Below.refl _ _ | refine Below.drew ?_ | refine Below.drewN ?_ _ | refine Below.alloc ?_ (by first | (simp; done) | (simp; omega) | omega | (have := Below.size hbel; simp; omega) | (have := Below.size hbel; omega)) _ | refine Below.setCell ?_ (by first | (simp; done) | (simp; omega) | omega) _))⟩
  case round =>
    obtain ⟨j, hj, rfl, rfl, hbel⟩ := hrel
    have hbel' := Lib.hid hbel
    by_cases hlt : j < ks.length
    · obtain ⟨q, hq⟩ : ∃ q, ks[j]? = some q := ⟨ks[j], List.getElem?_eq_getElem _⟩
      obtain ⟨y, hy, hpi⟩ := hc'.out j q hq
      have hy1 := (hbel.cell (p := ⟨g, j, none⟩) hgw).trans hy
      have hsum := formText_take (h := h) hq
      have hle := formText_len h ks (j + 1)
      rw [hsum] at hle
      simp only [List.length_append, List.length_cons, List.length_nil] at hle
      have hTX := hk'.out q (List.mem_of_getElem? hq)
      have mq := fun w => text_m hpi w
      have cq := fun x w => text_c q x w
      have hpi' := Lib.hid hpi
      have hsum' := Lib.hid hsum
      generalize hF : formText h (ks.take j) = F at *
      have k1 := fun (w : World) => run_string_add_sum (P := Tryz.prog) w ⟨#[32]⟩ ⟨q.text.toArray⟩ (by show 1 + q.text.length ≤ _; omega)
      have k2 := fun (w : World) => run_string_add_sum (P := Tryz.prog) w ⟨F.toArray⟩ (⟨#[32]⟩ ++ ⟨q.text.toArray⟩) (by rw [ByteArray.size_append]; show F.length + (1 + q.text.length) ≤ _; omega)
      have hE : (⟨F.toArray⟩ ++ (⟨#[32]⟩ ++ ⟨q.text.toArray⟩) : ByteArray) = ⟨(F ++ [32] ++ q.text).toArray⟩ := by
        rw [show (⟨#[32]⟩ : ByteArray) = ⟨[32].toArray⟩ from rfl]
        simp only [ba_append, List.append_assoc]
      have hE' := Lib.hid hE
      clear hy hpi hq hbel hsum hE
      go_wp2_with (refine Calls.mono (hTX.out _ D _ (hpi'.out.below hbel'.out hD'.out) (fun g hg => by have := hD'.out g hg; have := hbel'.out.size; omega)) ?_; rintro e w1 ⟨rfl, hb1⟩)
      go_roundw
      case rel => exact ⟨j + 1, by omega, by go_num, by rw [hsum'.out, hE'.out], below_step hbel'.out (Nat.le_refl _) hb1⟩
      case measure => simp [intOf]; omega
    · have e : j = ks.length := by omega
      subst e
      have hsum : formText h (ks.take ks.length) = formText h ks := by rw [List.take_of_length_le (by simp)]
      rw [hsum]
      generalize hF : formText h ks = F at *
      have hF' := Lib.hid hF
      clear hF
      have k1 := fun (w : World) => run_string_add_sum (P := Tryz.prog) w ⟨F.toArray⟩ ⟨#[41]⟩ (by show F.length + 1 ≤ _; omega)
      have hE : (⟨F.toArray⟩ ++ ⟨#[41]⟩ : ByteArray) = ⟨(F ++ [41]).toArray⟩ := by
        rw [show (⟨#[41]⟩ : ByteArray) = ⟨[41].toArray⟩ from rfl]
        simp only [ba_append]
      rw [hE] at k1
      go_wp2_with fail
      go_ret
      exact ⟨by rw [hF'.out]; rfl, hbel'.out⟩

theorem textP_any : ∀ {p : P}, p.ok = true → p.size ≤ 1000 → TXP p
  | .nm s, hk, _ => by rw [P.ok] at hk; exact textP_nm s hk
  | .f1 h p, hk, hs => fun w D x hx hD => by
    have hl := P.text_length hk
    rw [P.ok, Bool.and_eq_true] at hk
    rw [P.size] at hs hl
    have H := textP_any hk.1 (by omega)
    have e := formText_all (p := .f1 h p) (h := h) (ks := [p]) ⟨rfl, rfl⟩
    rw [← e] at hl ⊢
    exact text_form (.f1 h p) h [p] ⟨rfl, rfl⟩ (fun q hq => by simp at hq; subst hq; exact H) (by simp at hl; omega) w D x hx hD
  | .f2 h p q, hk, hs => fun w D x hx hD => by
    have hl := P.text_length hk
    rw [P.ok, Bool.and_eq_true, Bool.and_eq_true] at hk
    rw [P.size] at hs hl
    have H := textP_any hk.1.1 (by omega)
    have H' := textP_any hk.1.2 (by omega)
    have e := formText_all (p := .f2 h p q) (h := h) (ks := [p, q]) ⟨rfl, rfl⟩
    rw [← e] at hl ⊢
    exact text_form (.f2 h p q) h [p, q] ⟨rfl, rfl⟩ (fun r hr => by simp at hr; rcases hr with rfl | rfl; exact H; exact H') (by simp at hl; omega) w D x hx hD
  | .bd s b, hk, hs => by
    rw [P.ok, Bool.and_eq_true, Bool.and_eq_true] at hk
    rw [P.size] at hs
    have hl := P.text_length hk.1.2
    exact textP_bd s b hk.1.1 (by omega) (textP_any hk.1.2 (by omega))

end Go.Proofs.YtaagbnbekfogiaaGreatDoor
