/- Renaming, with a program put for a name: (impl.name).renamed, the methods 'renamed' of programs. -/
import Derived.Test.YtaagbnbekfogiaaGreatDoorNext
import Derived.Test.YtaagbnbekfogiaaGreatDoorTextP
import Derived.Test.YtaagbnbekfogiaaGreatDoorMakeP
import Derived.Test.YtaagbnbekfogiaaGreatDoorMathW
namespace Go.Proofs.YtaagbnbekfogiaaGreatDoor
set_option linter.unusedVariables false
open Go.RowKit Go.Maps

/-- What stands for names, the innermost one first: names, and at the end what is put for one. -/
def chain (sc : List (Bs × Bs)) (sub : Option (Bs × P)) : List (Bs × P) := sc.map (fun e => (e.1, P.nm e.2)) ++ sub.toList
def lookP : List (Bs × P) → Bs → Option P
  | [], _ => none
  | (o, q) :: M, s => if o = s then some q else lookP M s
theorem ren_chain (L : List Bs) (sub : Option (Bs × P)) (s : Bs) (st : St) : ∀ sc : List (Bs × Bs), (P.nm s).ren L (putAt L sub) sc st = match lookP (chain sc sub) s with
    | some q => q.ren L stay [] st
    | none => (.nm s, st)
  | [] => by
    cases sub with
    | none => rfl
    | some e =>
      obtain ⟨n, q⟩ := e
      show (if n = s then q.ren L stay [] st else (.nm s, st)) = match (if n = s then some q else none) with
        | some q => q.ren L stay [] st
        | none => (.nm s, st)
      by_cases h : n = s
      · rw [if_pos h, if_pos h]
      · rw [if_neg h, if_neg h]
  | (o, n) :: sc => by
    have ih := ren_chain L sub s st sc
    rw [P.ren] at ih ⊢
    show (match (if o = s then some n else look sc s) with
      | some n => (.nm n, st)
      | none => putAt L sub s st) = match (if o = s then some (P.nm n) else lookP (chain sc sub) s) with
        | some q => q.ren L stay [] st
        | none => (.nm s, st)
    by_cases h : o = s
    · rw [if_pos h, if_pos h]; rfl
    · rw [if_neg h, if_neg h]; exact ih

def SCP (w : World) (E : Nat → Prop) : List (Bs × P) → Value → Prop
  | [], v => v = .pointer none
  | (o, q) :: M, v => ∃ g v' y, v = .pointer (some ⟨g, 0, none⟩) ∧ E g ∧ w.cell? ⟨g, 0, none⟩ = some (.int .u8 (hdI o)) ∧ w.cell? ⟨g, 1, none⟩ = some (str o.tail) ∧ w.cell? ⟨g, 2, none⟩ = some (.iface (pt q) y) ∧ PI w E q y ∧ w.cell? ⟨g, 3, none⟩ = some v' ∧ SCP w E M v'
theorem SCP.keep {w w' : World} {E E' : Nat → Prop} (hw : ∀ g, E g → w'.heap[g]? = w.heap[g]?) (hE : ∀ g, E g → E' g) : ∀ (M : List (Bs × P)) (v : Value), SCP w E M v → SCP w' E' M v
  | [], v, h => h
  | (o, q) :: M, v, ⟨g, v', y, hv, hg, h0, h1, h2, hq, h3, hr⟩ =>
    ⟨g, v', y, hv, hE g hg, (World.cell?_of_block (a := ⟨g, 0, none⟩) (hw g hg)).trans h0, (World.cell?_of_block (a := ⟨g, 1, none⟩) (hw g hg)).trans h1, (World.cell?_of_block (a := ⟨g, 2, none⟩) (hw g hg)).trans h2, PI.keep hw hE q y hq, (World.cell?_of_block (a := ⟨g, 3, none⟩) (hw g hg)).trans h3, SCP.keep hw hE M v' hr⟩
theorem SCP.ptr {w : World} {E : Nat → Prop} {M : List (Bs × P)} {sv : Value} (h : SCP w E M sv) : ∃ q, sv = .pointer q := by
  cases M with
  | nil => exact ⟨none, h⟩
  | cons e M => obtain ⟨o, n⟩ := e; obtain ⟨g, v', y, hv, _⟩ := h; exact ⟨_, hv⟩
theorem below_undrew {w w2 : World} (h : Below w.drew.heap.size w.drew w2) : Below w.heap.size w w2 := ⟨h.os, h.tape, h.output, h.size, h.block⟩
theorem below_none {w w' : World} (h : Below w.heap.size w w') : w.grownBy w' none := ⟨h.os, h.tape, h.output, h.size, fun k hk _ => h.block k hk⟩

def NamesOk (L : List Bs) : Prop := ∀ x ∈ L, x ≠ [] ∧ x.length ≤ 9000
def ChNe (M : List (Bs × P)) : Prop := ∀ o q, (o, q) ∈ M → o ≠ []

/-- What the call hands back. -/
def RenPost (bc : Nat) (q : P) (r bf : Nat) (L : List Bs) (st : St) (w : World) (e : Ending) (w' : World) : Prop :=
  ∃ y, e = .returned (.iface (pt q) y) ∧ PI w' (New w.heap.size w') q y ∧ RN w' r bf bc L st ∧ w.grownBy w' (some bc)
theorem RenPost.from {bc r bf : Nat} {q : P} {L : List Bs} {st : St} {w W : World} {e : Ending} {w' : World} (hW : w.grownBy W (some bc)) (h : RenPost bc q r bf L st W e w') : RenPost bc q r bf L st w e w' := by
  obtain ⟨y, he, hp, hr, hg⟩ := h
  exact ⟨y, he, hp.to (fun g hg => ⟨Nat.le_trans hW.size hg.1, hg.2⟩), hr, grown_trans' hW hg⟩
/-- The method of a program that is well known where nothing is in scope. -/
def RENP0 (N B : Nat) (p : P) : Prop := ∀ (r bf bc : Nat) (L : List Bs) (st : St) (a : Nat) (w : World) (D : Nat → Prop) (x : Value), ITO N B w → B ≤ bc → B ≤ w.heap.size → RN w r bf bc L st → NamesOk L → PI w D p x → (∀ g, D g → g < w.heap.size ∧ g ≠ bc) →
  StOk L st a → a + (p.ren L stay [] st).1.binders + L.length < N →
  Calls Tryz.prog (renamedFn p) #[x, .pointer (some ⟨r, 0, none⟩), .pointer none] w (RenPost bc (p.ren L stay [] st).1 r bf L (p.ren L stay [] st).2 w)
def RENP (N B : Nat) (sub : Option (Bs × P)) (p : P) : Prop := ∀ (r bf bc : Nat) (L : List Bs) (st : St) (a : Nat) (sc : List (Bs × Bs)) (sv : Value) (w : World) (D E : Nat → Prop) (x : Value), ITO N B w → B ≤ bc → B ≤ w.heap.size → RN w r bf bc L st → NamesOk L → PI w D p x → (∀ g, D g → g < w.heap.size ∧ g ≠ bc) →
  SCP w E (chain sc sub) sv → (∀ g, E g → g < w.heap.size ∧ g ≠ bc) → ChNe (chain sc sub) → StOk L st a → a + (p.ren L (putAt L sub) sc st).1.binders + L.length < N →
  Calls Tryz.prog (renamedFn p) #[x, .pointer (some ⟨r, 0, none⟩), sv] w (RenPost bc (p.ren L (putAt L sub) sc st).1 r bf L (p.ren L (putAt L sub) sc st).2 w)

set_option maxRecDepth 100000 in
theorem nameRen_nil (r : Value) (c : UInt8) (d : Bs) (w : World) : Calls Tryz.prog 189 #[nameV c d, r, .pointer none] w fun e w' => e = .returned (.iface (pt (.nm (c :: d))) (nameV c d)) ∧ Below w.heap.size w w' := by
  have hl := Lib.hid (fun W => leaf_any c d W)
  go_enter Tryz.func189, Tryz.ntmps189
  go_wp2_with fail
  go_loopw [2] (fun s wr => s = .pointer none ∧ wr = w.alloc (.cells #[.int .u8 c.toNat, str d] 41)) (fun _ _ => 0)
  case atStart => exact ⟨rfl, rfl⟩
  case round =>
    obtain ⟨rfl, rfl⟩ := hrel
    go_wp2_with fail
    refine Calls.mono (hl.out _) ?_
    rintro e w1 ⟨rfl, hb1⟩
    go_wp2_with fail
    go_ret
    exact ⟨rfl, below_step ((Below.refl _ _).alloc (Nat.le_refl _) _) (by simp) hb1⟩
theorem renp0_nm (N B : Nat) (s : Bs) : RENP0 N B (.nm s) := by
  intro r bf bc L st a w D x _ _ _ hrn hL hx hD hst ha
  obtain ⟨c, d, rfl, rfl⟩ := hx
  rw [show renamedFn (.nm (c :: d)) = 189 from by simp [renamedFn, mfn]]
  refine Calls.mono (nameRen_nil _ c d w) ?_
  rintro e w' ⟨rfl, hb⟩
  exact ⟨nameV c d, rfl, ⟨c, d, rfl, rfl⟩, hrn.kept (below_none hb), below_grown hb _⟩

set_option maxRecDepth 100000 in
theorem renp_nm (N B : Nat) (sub : Option (Bs × P)) (Hsub : ∀ n q, sub = some (n, q) → Hid (RENP0 N B q)) (s : Bs) : RENP N B sub (.nm s) := by
  intro r bf bc L st a sc sv w D E x hito hB hBw hrn hL hx hD hsc hE hne hst ha
  obtain ⟨c, d, rfl, rfl⟩ := hx
  rw [show renamedFn (.nm (c :: d)) = 189 from by simp [renamedFn, mfn]]
  rw [ren_chain] at ha ⊢
  have HM : ∀ o q, (o, q) ∈ chain sc sub → Hid (RENP0 N B q) := fun o q hm => by
    rcases List.mem_append.1 hm with hm | hm
    · obtain ⟨e, -, he⟩ := List.mem_map.1 hm
      injection he with _ he
      subst he
      exact renp0_nm N B e.2
    · cases sub with
      | none => cases hm
      | some e =>
        obtain ⟨n, q'⟩ := e
        simp only [Option.toList_some, List.mem_singleton] at hm
        injection hm with h1 h2
        subst h2
        exact Hsub n _ rfl
  generalize chain sc sub = M at *
  have hl := Lib.hid (fun W => leaf_any c d W)
  have hsc' := Lib.hid (SCP.keep (w' := w.alloc (.cells #[.int .u8 c.toNat, str d] 41)) (fun g hg => Below.heap_alloc _ _ _ (hE g hg).1) (fun g hg => hg) M sv hsc)
  have hE' := Lib.hid hE
  have HM' := Lib.hid HM
  have hne' := Lib.hid hne
  have hrn' := Lib.hid hrn
  have hL' := Lib.hid hL
  have hst' := Lib.hid hst
  have hito' := Lib.hid hito
  have ha' := Lib.hid ha
  have hpost : Hid (∀ e w', RenPost bc (match lookP M (c :: d) with | some q => q.ren L stay [] st | none => (.nm (c :: d), st)).1 r bf L (match lookP M (c :: d) with | some q => q.ren L stay [] st | none => (.nm (c :: d), st)).2 w e w' → RenPost bc (match lookP M (c :: d) with | some q => q.ren L stay [] st | none => (.nm (c :: d), st)).1 r bf L (match lookP M (c :: d) with | some q => q.ren L stay [] st | none => (.nm (c :: d), st)).2 w e w') := fun _ _ h => h
  have hb0 : Below (w.heap.size + 1) (w.alloc (.cells #[.int .u8 c.toNat, str d] 41)) (w.alloc (.cells #[.int .u8 c.toNat, str d] 41)) := Below.refl _ _
  generalize hres : (match lookP M (c :: d) with | some q => q.ren L stay [] st | none => (.nm (c :: d), st)) = res at *
  have hres' := Lib.hid hres
  clear hsc hE HM hne hrn hL hst hito ha hpost hD hres
  go_enter Tryz.func189, Tryz.ntmps189
  go_wp2_with fail
  go_loopg [2] M.length (fun f v wr => ∃ M', M'.length ≤ f ∧ SCP wr E M' v ∧ lookP M' (c :: d) = lookP M (c :: d) ∧ (∀ e, e ∈ M' → e ∈ M) ∧ Below (w.heap.size + 1) (w.alloc (.cells #[.int .u8 c.toNat, str d] 41)) wr)
  case atStart => exact ⟨M, Nat.le_refl _, hsc'.out, rfl, fun _ h => h, hb0⟩
  case round =>
    obtain ⟨M', hlen, hs, hlk, hno, hbel⟩ := hrel
    obtain ⟨z0, r0, r1, -, -⟩ := two_cells ((hbel.block w.heap.size (by omega)).trans (heap_alloc_new w _))
    have hbw : Hid (Below w.heap.size w wr) := Lib.hid (below_step ((Below.refl _ _).alloc (Nat.le_refl _) _ : Below w.heap.size w (w.alloc (.cells #[.int .u8 c.toNat, str d] 41))) (by simp) (by simpa using hbel))
    have hbel' := Lib.hid hbel
    have hlk' := Lib.hid hlk
    have hno' := Lib.hid hno
    clear hbel hlk hb0 hno
    match M', hs, hlen, hno', hlk' with
    | [], hs, _, _, hlk' =>
      obtain rfl : _ = Value.pointer none := hs
      have hfin : Hid (res = (.nm (c :: d), st)) := Lib.hid (by rw [← hres'.out, ← hlk'.out]; rfl)
      go_wp2_with fail
      refine Calls.mono (hl.out _) ?_
      rintro e w1 ⟨rfl, hb1⟩
      have hb1' := Lib.hid (below_step hbw.out (Nat.le_refl _) hb1)
      clear hb1
      go_wp2_with fail
      go_ret
      rw [hfin.out]
      exact ⟨nameV c d, rfl, ⟨c, d, rfl, rfl⟩, hrn'.out.kept (below_none hb1'.out), below_grown hb1'.out _⟩
    | (o, q) :: M', ⟨g, v', y, hv, hg, h0, h1, h2, hq, h3, hr⟩, hlen, hno, hlk' =>
      subst hv
      have hone := hne'.out o q (hno.out _ (by simp))
      have hgw : g < wr.heap.size := Nat.lt_of_lt_of_le (hE'.out g hg).1 hbw.out.size
      have hr' := Lib.hid hr
      clear hr
      by_cases hos : o = c :: d
      · subst hos
        have mq := fun w => renamed_m hq w
        have cq := fun x w => renamed_c q x w
        have hfin : Hid (res = q.ren L stay [] st) := Lib.hid (by rw [← hres'.out, ← hlk'.out, lookP, if_pos rfl])
        have hcall := Lib.hid ((HM'.out (c :: d) q (hno.out _ (by simp))).out r bf bc L st a wr.drew E y ((hito'.out.below hbw.out hBw).keep (fun _ _ => rfl)) hB (Nat.le_trans hBw hbw.out.size) (hrn'.out.kept (below_none hbw.out)).drewed hL'.out (PI.keep (w := wr) (w' := wr.drew) (fun _ _ => rfl) (fun _ h => h) _ _ hq) (fun g hg => And.intro (Nat.lt_of_lt_of_le (hE'.out g hg).1 hbw.out.size) (hE'.out g hg).2) hst'.out (by have := ha'.out; rw [hfin.out] at this; exact this))
        have h0' : wr.cell? ⟨g, 0, none⟩ = some (.int .u8 c.toNat) := h0
        have h1' : wr.cell? ⟨g, 1, none⟩ = some (str d) := h1
        clear h0 h1 hq hlen
        go_wp2_with fail
        go_region
        go_wp2_with fail
        refine Calls.mono hcall.out ?_
        intro e w1 hp
        have hp2 := Lib.hid (RenPost.from (w := w) (grown_drew (below_grown hbw.out _)) hp)
        obtain ⟨z, rfl, -⟩ := hp
        go_wp2_with fail
        go_ret
        rw [hfin.out]
        exact hp2.out
      · obtain ⟨co, dd, rfl⟩ : ∃ co dd, o = co :: dd := by cases o with
          | nil => exact absurd rfl hone
          | cons c d => exact ⟨c, d, rfl⟩
        have h0' : wr.cell? ⟨g, 0, none⟩ = some (.int .u8 co.toNat) := h0
        have h1' : wr.cell? ⟨g, 1, none⟩ = some (str dd) := h1
        have hres2 := Lib.hid (show lookP (((co :: dd), q) :: M') (c :: d) = lookP M' (c :: d) from by rw [lookP, if_neg hos])
        have hcase : ((co.toNat : Int) = (c.toNat : Int)) = False ∨ (((co.toNat : Int) = (c.toNat : Int)) = True ∧ (dd = d) = False) := by
          by_cases h1 : (co.toNat : Int) = (c.toNat : Int)
          · refine .inr ⟨eq_true h1, eq_false fun h2 => hos ?_⟩
            rw [h2, UInt8.toNat_inj.1 (show co.toNat = c.toNat by omega)]
          · exact .inl (eq_false h1)
        have hlen' : M'.length + 1 ≤ gk := by simpa using hlen
        clear hos hone hlen h0 h1 hq
        rcases hcase with e1 | ⟨e1, e2⟩
        all_goals
          go_wp2_with fail
          go_region
          go_wp2_with fail
          go_roundg M'.length
          case measure => omega
          case rel => exact ⟨M', Nat.le_refl _, SCP.keep (w := wr) (w' := wr.drew) (fun _ _ => rfl) (fun _ h => h) _ _ hr'.out, hres2.out.symm.trans hlk'.out, fun e h => hno.out e (List.mem_cons_of_mem _ h), hbel'.out.drew⟩

end Go.Proofs.YtaagbnbekfogiaaGreatDoor
