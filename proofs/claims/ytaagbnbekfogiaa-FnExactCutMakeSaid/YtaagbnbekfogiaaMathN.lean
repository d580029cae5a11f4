/- The step by name is the dual of the step by value: plain mathematics. Sizes and shapes of what results. -/
import Derived.Test.YtaagbnbekfogiaaMathS
namespace Go.Proofs.Ytaagbnbekfogiaa
set_option linter.unusedVariables false

/-- The second one has the dual of the first one's step. -/
def DRel : Option P → Option P → Prop
  | none, none => True
  | some q, some r => q.db [] = (r.db []).dual
  | _, _ => False

theorem put_dual {s : P} {x : Bs} {m : P} (hs : s.ok = true) (hm : m.ok = true) : (s.put x m).db [] = ((s.dual.put (swapB x) m.dual).db []).dual := by
  rw [P.put_db, P.put_db, B.sub_dual, swapB_two, ← P.dual_db0 (P.nok_ok (P.dual_ok hs)), ← P.dual_db0 (P.nok_ok (P.dual_ok hm)), P.dual_dual hs, P.dual_dual hm]
theorem hd1_dword {h : Bs} {p : P} (hok : (P.f1 h p).ok = true) : dword (dword h) = h := by
  rw [P.ok, Bool.and_eq_true, decide_eq_true_iff] at hok
  exact (dual_hd1 hok.2).2
theorem hd2_side {h : Bs} {p q : P} (hok : (P.f2 h p q).ok = true) (hk : (P.f2 h p q).kind ≠ .s) : h ≠ cutB ∧ dword (dword h) = h := by
  rw [P.ok, Bool.and_eq_true, Bool.and_eq_true, decide_eq_true_iff] at hok
  have hc : h ≠ cutB := fun e => by
    subst e
    exact hk (cut_hd2 hok.2).1
  exact ⟨hc, (dual_hd2 hok.2 hc).2.1⟩
theorem cut_dual (a b : P) : (P.f2 cutB a b).dual = .f2 cutB b.dual a.dual := by rw [P.dual, if_pos rfl]
theorem parts1 {h : Bs} {p : P} (hok : (P.f1 h p).ok = true) : p.ok = true := by rw [P.ok, Bool.and_eq_true] at hok; exact hok.1
theorem parts2 {h : Bs} {p q : P} (hok : (P.f2 h p q).ok = true) : p.ok = true ∧ q.ok = true := by rw [P.ok, Bool.and_eq_true, Bool.and_eq_true] at hok; exact hok.1

theorem dual_f2 {h : Bs} (hc : h ≠ cutB) (p q : P) : (P.f2 h p q).dual = .f2 (dword h) p.dual q.dual := by rw [P.dual, if_neg hc]
theorem dual_f1 (h : Bs) (p : P) : (P.f1 h p).dual = .f1 (dword h) p.dual := rfl

theorem meet_dual {m k : P} (h : MK m k) : (meet true k.dual m.dual).map P.dual = meet false k m := by
  obtain ⟨h1, h2, h3, h4, h5⟩ := h
  match k, m, h1, h2, h3, h4 with
  | .f2 x p q, .f1 y l, h1, h2, h3, h4 =>
    obtain ⟨hc, hd⟩ := hd2_side h2 (by rw [h4]; decide)
    have hl := P.dual_dual (parts1 h1)
    have hp := P.dual_dual (parts2 h2).1
    have hq := P.dual_dual (parts2 h2).2
    rw [dual_f2 hc, dual_f1]
    simp only [meet, sideH, if_true, if_false, Bool.false_eq_true, mkcut]
    by_cases e1 : dword x = pairB ∧ dword y = fstB
    · rw [if_pos e1, if_pos e1, Option.map_some, cut_dual, hl, hp]
    · rw [if_neg e1, if_neg e1]
      by_cases e2 : dword x = pairB ∧ dword y = sndB
      · rw [if_pos e2, if_pos e2, Option.map_some, cut_dual, hl, hq]
      · rw [if_neg e2, if_neg e2]; rfl
  | .f1 x p, .f2 y l r, h1, h2, h3, h4 =>
    obtain ⟨hc, hd⟩ := hd2_side h1 (by rw [h3]; decide)
    have hp := P.dual_dual (parts1 h2)
    have hl := P.dual_dual (parts2 h1).1
    have hr := P.dual_dual (parts2 h1).2
    rw [dual_f1, dual_f2 hc]
    simp only [meet, sideH, if_true, if_false, Bool.false_eq_true, mkcut]
    by_cases e1 : dword x = inlB ∧ dword y = caseB
    · rw [if_pos e1, if_pos e1, Option.map_some, cut_dual, hl, hp]
    · rw [if_neg e1, if_neg e1]
      by_cases e2 : dword x = inrB ∧ dword y = caseB
      · rw [if_pos e2, if_pos e2, Option.map_some, cut_dual, hr, hp]
      · rw [if_neg e2, if_neg e2]; rfl
  | .f1 x l, .f1 y n, h1, h2, h3, h4 =>
    have hl := P.dual_dual (parts1 h2)
    have hn := P.dual_dual (parts1 h1)
    rw [P.dual, P.dual]
    simp only [meet, sideH, if_true, if_false, Bool.false_eq_true, mkcut]
    by_cases e1 : dword x = notB ∧ dword y = negB
    · rw [if_pos e1, if_pos e1, Option.map_some, cut_dual, hl, hn]
    · rw [if_neg e1, if_neg e1]; rfl
  | .f2 x p q, .f2 y l r, h1, h2, h3, h4 =>
    rw [dual_f2 (hd2_side h2 (by rw [h4]; decide)).1, dual_f2 (hd2_side h1 (by rw [h3]; decide)).1]
    rfl
  | .f2 x p q, .nm _, h1, h2, h3, h4 =>
    rw [dual_f2 (hd2_side h2 (by rw [h4]; decide)).1]; rfl
  | .f2 x p q, .bd _ _, h1, h2, h3, h4 =>
    rw [dual_f2 (hd2_side h2 (by rw [h4]; decide)).1]; rfl
  | .nm _, _, _, _, _, _ => rfl
  | .bd _ _, _, _, _, _, _ => rfl
  | .f1 _ _, .nm _, _, _, _, _ => rfl
  | .f1 _ _, .bd _ _, _, _, _, _ => rfl

theorem drel_map {o : Option P} (h : ∀ r, o = some r → r.ok = true) : DRel (o.map P.dual) o := by
  cases o with
  | none => exact True.intro
  | some r => exact P.dual_db0 (P.nok_ok (h r rfl))
theorem rest_dual {m k : P} (h : MK m k) : DRel (rest false k m) (rest true k.dual m.dual) := by
  have hm := meet_dual h
  have key : DRel (meet false k m) (meet true k.dual m.dual) := by
    rw [← hm]
    exact drel_map fun r hr => (meet_true h.dual hr).1
  cases m with
  | bd a s =>
    obtain ⟨b1, b2, b3⟩ := bd_parts h.mok
    exact put_dual b2 h.kok
  | nm s => exact key
  | f1 x p => exact key
  | f2 x p q =>
    have hc := (hd2_side h.mok (by rw [h.mt]; decide)).1
    rw [P.dual, if_neg hc] at key ⊢
    exact key
theorem nxt_dual (m k : P) : nxt (k.dual.uses ++ m.dual.uses) true 0 = nxt (k.uses ++ m.uses) false 0 := by
  have hsw : ∀ i, swapB (cname false i) = cname true i := fun i => rfl
  have hiff : ∀ i, cname true i ∈ k.dual.uses ++ m.dual.uses ↔ cname false i ∈ k.uses ++ m.uses := fun i => by
    rw [List.mem_append, List.mem_append, ← hsw i, P.dual_uses, P.dual_uses]
  obtain ⟨k1, k2, k3⟩ := nxt_least (k.uses ++ m.uses) false 0
  exact nxt_is (fun h => k1 ((hiff _).1 h)) k2 (fun i h1 h2 => (hiff i).2 (k3 i h1 h2))
theorem laterAt_dual {m k : P} (h : MK m k) (i : Nat) (hv : k.cov = false) : (laterAt true (cname true i) k.dual m.dual).map P.dual = laterAt false (cname false i) k m := by
  have hsw : swapB (cname true i) = cname false i := rfl
  have hmd := P.dual_dual h.mok
  cases k with
  | bd a s => rfl
  | nm s => rfl
  | f1 x p =>
    have hx := hd1_dword h.kok
    have hp := P.dual_dual (parts1 h.kok)
    rw [P.dual]
    simp only [laterAt, mkcut, if_true, if_false, Bool.false_eq_true, Option.map_some]
    rw [cut_dual, P.dual, cut_dual, P.dual, P.dual, hsw, hx, hp, hmd]
  | f2 x p q =>
    obtain ⟨hc, hx⟩ := hd2_side h.kok (by rw [h.kc]; decide)
    have hp := P.dual_dual (parts2 h.kok).1
    have hq := P.dual_dual (parts2 h.kok).2
    have hdc : dword x ≠ cutB := by
      have := h.kok
      rw [P.ok, Bool.and_eq_true, Bool.and_eq_true, decide_eq_true_iff] at this
      exact (dual_hd2 this.2 hc).2.2
    have hpv := (P.val_dual (parts2 h.kok).1).1
    rw [P.dual, if_neg hc]
    simp only [laterAt, mkcut, if_true, if_false, Bool.false_eq_true, isval, hpv]
    cases p.cov
    · simp only [if_false, Bool.false_eq_true, Option.map_some]
      rw [cut_dual, P.dual, cut_dual, P.dual, if_neg hdc, P.dual, hsw, hx, hp, hq, hmd]
    · simp only [if_true, Option.map_some]
      rw [cut_dual, P.dual, cut_dual, P.dual, if_neg hdc, P.dual, hsw, hx, hp, hq, hmd]
theorem later_dual {m k : P} (h : MK m k) (hv : k.cov = false) : DRel (later false k m) (later true k.dual m.dual) := by
  have h1 := k.uses_len
  have h2 := m.uses_len
  have h3 := (nxt_pot (free := k.uses ++ m.uses) (v := false) (a := 0) (c := 0) (Nat.zero_le _)).1
  have hs := h.sz
  unfold later newN
  rw [nxt_dual, ← laterAt_dual h _ hv]
  refine drel_map fun r hr => ?_
  exact (laterAt_true h.dual (by rw [List.length_append] at h3; omega) (by rw [(P.val_dual h.kok).1, hv]) hr).1
theorem step_dual {m k : P} (h : MK m k) : DRel (stepG false k m) (stepG true k.dual m.dual) := by
  have hr := rest_dual h
  have hl := later_dual h
  have hvd := (P.val_dual h.kok).1
  cases k with
  | bd x s =>
    obtain ⟨b1, b2, b3⟩ := bd_parts h.kok
    exact put_dual b2 h.mok
  | nm s => exact hr
  | f1 x p =>
    rw [P.dual] at hr hl hvd ⊢
    rw [stepG, stepG, show isval false (.f1 x p) = (P.f1 x p).cov from rfl, show isval true (.f1 (dword x) p.dual) = (P.f1 (dword x) p.dual).val from rfl, hvd]
    cases hv : (P.f1 x p).cov
    · rw [if_neg (by decide), if_neg (by decide)]; exact hl hv
    · rw [if_pos rfl, if_pos rfl]; exact hr
  | f2 x p q =>
    have hc := (hd2_side h.kok (by rw [h.kc]; decide)).1
    rw [P.dual, if_neg hc] at hr hl hvd ⊢
    rw [stepG, stepG, show isval false (.f2 x p q) = (P.f2 x p q).cov from rfl, show isval true (.f2 (dword x) p.dual q.dual) = (P.f2 (dword x) p.dual q.dual).val from rfl, hvd]
    cases hv : (P.f2 x p q).cov
    · rw [if_neg (by decide), if_neg (by decide)]; exact hl hv
    · rw [if_pos rfl, if_pos rfl]; exact hr
theorem B.dual_size : ∀ d : B, d.dual.size = d.size
  | .fr _ => rfl
  | .bv _ => rfl
  | .f1 _ d => by rw [B.dual, B.size, B.size, B.dual_size d]
  | .f2 x d e => by
    rw [B.dual]
    split
    · rw [B.size, B.size, B.dual_size d, B.dual_size e]; omega
    · rw [B.size, B.size, B.dual_size d, B.dual_size e]
  | .bd _ d => by rw [B.dual, B.size, B.size, B.dual_size d]
theorem step_rel {m k : P} (h : MK m k) (v : Bool) : SRel (stepC v m k) (sany v m k) := by
  cases v
  · have hd := step_dual h
    have ht := step_rel_t h.dual
    unfold stepC sany
    rw [if_neg (by decide), if_neg (by decide)]
    cases e1 : stepG false k m with
    | none =>
      cases e2 : stepG true k.dual m.dual with
      | none =>
        rw [e2] at ht
        cases e3 : sstep k.dual m.dual with
        | none => exact True.intro
        | some o => rw [e3] at ht; exact ht.elim
      | some r => rw [e1, e2] at hd; exact hd.elim
    | some q =>
      cases e2 : stepG true k.dual m.dual with
      | none => rw [e1, e2] at hd; exact hd.elim
      | some r =>
        rw [e1, e2] at hd
        rw [e2] at ht
        have hd : q.db [] = (r.db []).dual := hd
        have hsz : q.size = r.size := by rw [← q.db_size [], hd, B.dual_size, r.db_size]
        cases e3 : sstep k.dual m.dual with
        | none => rw [e3] at ht; exact ht.elim
        | some o =>
          rw [e3] at ht
          cases o with
          | none =>
            have ht : 500 < r.size := ht
            show 500 < q.size
            omega
          | some q' =>
            obtain ⟨h1, h2, h3⟩ := (ht : q'.db [] = r.db [] ∧ q'.ok = true ∧ q'.kind = .s)
            refine ⟨?_, P.dual_ok h2, by rw [P.dual_kind h2, h3]; rfl⟩
            rw [P.dual_db0 (P.nok_ok h2), h1, hd]
  · exact step_rel_t h

/-- What a step makes is well named and not too large, and a statement if it is small enough. -/
structure Next (q : P) : Prop where
  nok : q.nok = true
  size : q.size ≤ 64000
  good : q.size ≤ 500 → q.ok = true ∧ q.kind = .s
theorem next_put {s : P} {n : Bs} {q : P} (hs : s.ok = true) (hss : s.kind = .s) (hq : q.ok = true) (hk : q.kind = (P.nm n).kind) (hz : s.size + q.size ≤ 500) : Next (s.put n q) := by
  have h1 := put_small (p := s) (n := n) (q := q) hz
  refine ⟨put_nok (P.nok_ok hs) (P.nok_ok hq) hz (by omega), by omega, fun h5 => ?_⟩
  obtain ⟨a1, a2⟩ := put_ok hs hq hk hz h5
  exact ⟨a1, a2.trans hss⟩
theorem next_ok {q : P} (h1 : q.ok = true) (h2 : q.kind = .s) (h3 : q.size ≤ 64000) : Next q := ⟨P.nok_ok h1, h3, fun _ => ⟨h1, h2⟩⟩
theorem next_dual {q : P} (h1 : q.ok = true) (h2 : q.kind = .s) (h3 : q.size ≤ 64000) : Next q.dual := next_ok (P.dual_ok h1) (by rw [P.dual_kind h1, h2]; rfl) (by rw [P.dual_size]; exact h3)
theorem next_rest_t {m k q : P} (h : MK m k) (e : rest true m k = some q) : Next q := by
  have key : ∀ {q}, meet true m k = some q → Next q := fun {q} e => by
    obtain ⟨h1, h2, h3⟩ := meet_true h e
    have := h.sz
    exact next_ok h1 h2 (by omega)
  cases k with
  | bd x s =>
    obtain ⟨b1, b2, b3⟩ := bd_parts h.kok
    have hs := h.sz
    rw [P.size] at hs
    injection e with e; subst e
    exact next_put b2 b3 h.mok (h.mt.trans (nm_kind_c h.kc).symm) (by omega)
  | nm s => exact key e
  | f1 x p => exact key e
  | f2 x p q => exact key e
theorem next_rest_n {m k q : P} (h : MK m k) (e : rest false k m = some q) : Next q := by
  have key : ∀ {q}, meet false k m = some q → Next q := fun {q} e => by
    rw [← meet_dual h] at e
    obtain ⟨r, hr, rfl⟩ := Option.map_eq_some_iff.1 e
    obtain ⟨h1, h2, h3⟩ := meet_true h.dual hr
    have := h.sz
    rw [P.dual_size, P.dual_size] at h3
    exact next_dual h1 h2 (by omega)
  cases m with
  | bd x s =>
    obtain ⟨b1, b2, b3⟩ := bd_parts h.mok
    have hs := h.sz
    rw [P.size] at hs
    injection e with e; subst e
    exact next_put b2 b3 h.kok (h.kc.trans (nm_kind_t h.mt).symm) (by omega)
  | nm s => exact key e
  | f1 x p => exact key e
  | f2 x p q => exact key e
theorem new_lt (v : Bool) (f g : P) (h : f.size + g.size ≤ 500) : nxt (f.uses ++ g.uses) v 0 < 1000 := by
  have h1 := f.uses_len
  have h2 := g.uses_len
  have h3 := (nxt_pot (free := f.uses ++ g.uses) (v := v) (a := 0) (c := 0) (Nat.zero_le _)).1
  rw [List.length_append] at h3; omega
theorem next_later_t {m k q : P} (h : MK m k) (hv : m.val = false) (e : later true m k = some q) : Next q := by
  have hs := h.sz
  obtain ⟨h1, h2, h3⟩ := laterAt_true h (new_lt true m k (by omega)) hv e
  exact next_ok h1 h2 (by omega)
theorem next_later_n {m k q : P} (h : MK m k) (hv : k.cov = false) (e : later false k m = some q) : Next q := by
  have hs := h.sz
  unfold later newN at e
  rw [← laterAt_dual h _ hv] at e
  obtain ⟨r, hr, rfl⟩ := Option.map_eq_some_iff.1 e
  obtain ⟨h1, h2, h3⟩ := laterAt_true h.dual (new_lt false k m (by omega)) (by rw [(P.val_dual h.kok).1, hv]) hr
  rw [P.dual_size, P.dual_size] at h3
  exact next_dual h1 h2 (by omega)
theorem next_step {m k q : P} (h : MK m k) {v : Bool} (e : stepC v m k = some q) : Next q := by
  cases v
  · unfold stepC at e
    rw [if_neg (by decide)] at e
    cases k with
    | bd x s =>
      obtain ⟨b1, b2, b3⟩ := bd_parts h.kok
      have hs := h.sz
      rw [P.size] at hs
      injection e with e; subst e
      exact next_put b2 b3 h.mok (h.mt.trans (nm_kind_c h.kc).symm) (by omega)
    | nm s => exact next_rest_n h e
    | f1 x p =>
      rw [stepG, show isval false (.f1 x p) = (P.f1 x p).cov from rfl] at e
      cases hv : (P.f1 x p).cov
      · rw [hv, if_neg (by decide)] at e; exact next_later_n h hv e
      · rw [hv, if_pos rfl] at e; exact next_rest_n h e
    | f2 x p q =>
      rw [stepG, show isval false (.f2 x p q) = (P.f2 x p q).cov from rfl] at e
      cases hv : (P.f2 x p q).cov
      · rw [hv, if_neg (by decide)] at e; exact next_later_n h hv e
      · rw [hv, if_pos rfl] at e; exact next_rest_n h e
  · unfold stepC at e
    rw [if_pos rfl] at e
    cases m with
    | bd x s =>
      obtain ⟨b1, b2, b3⟩ := bd_parts h.mok
      have hs := h.sz
      rw [P.size] at hs
      injection e with e; subst e
      exact next_put b2 b3 h.kok (h.kc.trans (nm_kind_t h.mt).symm) (by omega)
    | nm s => exact next_rest_t h e
    | f1 x p =>
      rw [stepG, show isval true (.f1 x p) = (P.f1 x p).val from rfl] at e
      cases hv : (P.f1 x p).val
      · rw [hv, if_neg (by decide)] at e; exact next_later_t h hv e
      · rw [hv, if_pos rfl] at e; exact next_rest_t h e
    | f2 x p q =>
      rw [stepG, show isval true (.f2 x p q) = (P.f2 x p q).val from rfl] at e
      cases hv : (P.f2 x p q).val
      · rw [hv, if_neg (by decide)] at e; exact next_later_t h hv e
      · rw [hv, if_pos rfl] at e; exact next_rest_t h e

end Go.Proofs.Ytaagbnbekfogiaa
