/- Lists of names in memory, impl.without, and the methods 'uses' of programs. -/
import Derived.Test.YtcdagenocmmidaaTextP
import Derived.Test.YtcdagenocmmidaaMathU
import Derived.Test.YtcdagenocmmidaaRowA
import Derived.Test.YtcdagenocmmidaaListT
import Derived.Deep.Onto
namespace Go.Proofs.Ytcdagenocmmidaa
set_option linter.unusedVariables false
open Go.RowKit

def hdI : Bs → Int
  | [] => 0
  | c :: _ => c.toNat
def NV (s : Bs) : List Value := [.int .u8 (hdI s), str s.tail]
def NVs (l : List Bs) : List Value := l.flatMap NV
theorem NVs_len (l : List Bs) : (NVs l).length = l.length * 2 := by
  induction l with
  | nil => rfl
  | cons a l ih => simp [NVs, NV] at ih ⊢; omega
theorem NVs_append (a b : List Bs) : NVs (a ++ b) = NVs a ++ NVs b := by simp [NVs]
theorem NVs_at : ∀ {l : List Bs} {i : Nat} {s : Bs}, l[i]? = some s → (NVs l)[i * 2]? = some (.int .u8 (hdI s)) ∧ (NVs l)[i * 2 + 1]? = some (str s.tail)
  | [], i, s, h => by simp at h
  | a :: l, 0, s, h => by simp at h; subst h; exact ⟨rfl, rfl⟩
  | a :: l, i + 1, s, h => by
    obtain ⟨h1, h2⟩ := NVs_at (l := l) (i := i) (s := s) (by simpa using h)
    have e : NVs (a :: l) = .int .u8 (hdI a) :: str a.tail :: NVs l := rfl
    rw [e, show (i + 1) * 2 = i * 2 + 1 + 1 from by omega]
    exact ⟨by simpa using h1, by simpa using h2⟩
theorem NVs_one (l : List Bs) : ∀ u ∈ NVs l, u.oneCell' = true := by
  intro u hu
  simp only [NVs, List.mem_flatMap, NV] at hu
  obtain ⟨s, -, hu⟩ := hu
  simp at hu
  rcases hu with rfl | rfl <;> rfl
theorem name_eq {s t : Bs} (hs : s ≠ []) (ht : t ≠ []) : (hdI s = hdI t ∧ s.tail = t.tail) ↔ s = t := by
  cases s with
  | nil => exact absurd rfl hs
  | cons c d =>
    cases t with
    | nil => exact absurd rfl ht
    | cons e f =>
      simp only [hdI, List.tail_cons, List.cons.injEq]
      constructor
      · rintro ⟨h1, h2⟩; exact ⟨UInt8.toNat_inj.1 (by omega), h2⟩
      · rintro ⟨h1, h2⟩; rw [h1]; exact ⟨rfl, h2⟩

/-- The slice (A, n) reads as the names l. -/
def RowN (w : World) (A : Option Addr) (n : Nat) (l : List Bs) : Prop :=
  n = l.length ∧ (0 < n → ∃ b o, A = some ⟨b, o, none⟩ ∧ b < w.heap.size ∧ ∀ (i : Nat) (s : Bs), l[i]? = some s → w.cell? ⟨b, o + i * 2, none⟩ = some (.int .u8 (hdI s)) ∧ w.cell? ⟨b, o + i * 2 + 1, none⟩ = some (str s.tail))
theorem RowN.below {w w' : World} {A : Option Addr} {n : Nat} {l : List Bs} (h : RowN w A n l) (hb : Below w.heap.size w w') : RowN w' A n l := by
  refine ⟨h.1, fun hn => ?_⟩
  obtain ⟨b, o, e, hlt, hc⟩ := h.2 hn
  exact ⟨b, o, e, Nat.lt_of_lt_of_le hlt hb.size, fun i s hi => ⟨(hb.cell (p := ⟨b, o + i * 2, none⟩) hlt).trans (hc i s hi).1, (hb.cell (p := ⟨b, o + i * 2 + 1, none⟩) hlt).trans (hc i s hi).2⟩⟩
theorem RowN.of_own {w : World} {base : Nat} {E : TypeId} {A : Option Addr} {n c : Nat} {l : List Bs} (h : w.ownsRow base E 2 (.slice A n c) n (NVs l)) : RowN w A n l := by
  refine ⟨by have := h.1; rw [NVs_len] at this; omega, fun hn => ?_⟩
  obtain ⟨g, cap, hv, _, hlt⟩ := h.form hn
  have hA : A = some ⟨g, 0, none⟩ := by injection hv
  subst hA
  refine ⟨g, 0, rfl, hlt, fun i s hi => ?_⟩
  obtain ⟨h1, h2⟩ := NVs_at hi
  have k1 := h.cells (g := g) rfl _ _ h1
  have k2 := h.cells (g := g) rfl _ _ h2
  have e : ∀ j, ({ block := g, off := 0, spot := none } : Addr).add j = ⟨g, 0 + j, none⟩ := by intro j; unfold Addr.add; split <;> simp_all
  rw [e] at k1 k2
  exact ⟨k1, by rw [Nat.add_assoc]; exact k2⟩

/-- A call hands back a row of its own with the names l. -/
def UPost (l : List Bs) (w : World) (e : Ending) (w' : World) : Prop :=
  ∃ A c, e = .returned (.slice A l.length c) ∧ w'.ownsRow w.heap.size 61 2 (.slice A l.length c) l.length (NVs l) ∧ Below w.heap.size w w'

theorem infoName : (Try.prog.info? 61).map (fun i => (i.zero, i.size, i.bytes)) = some (some (.agg #[.int .u8 0, .string ⟨#[]⟩]), 2, 24) := by kernel_rfl

abbrev nameW (s : Bs) : Value := .agg #[.int .u8 (hdI s), str s.tail]

theorem add_cells {w : World} {g : Nat} {cs : List Value} {E : TypeId} {fr : Nat × Nat} (h : w.heap[g]? = some (.cells cs.toArray E fr)) (j : Nat) (u : Value) (hu : cs[j]? = some u) : w.cell? ((⟨g, 0, none⟩ : Addr).add j) = some u := by
  have e : ({ block := g, off := 0, spot := none } : Addr).add j = ⟨g, j, none⟩ := by unfold Addr.add; split <;> simp_all
  rw [e]
  exact block_cells h j u (by simpa using hu)
theorem bb_alloc2 {B : Nat} {w0 W : World} (h : Below B w0 W) (o o' : Obj) (hB : B ≤ w0.heap.size) : Below B w0 ((W.alloc o).alloc o') := (h.alloc (Nat.le_trans hB h.size) o).alloc (by have := h.size; simp; omega) o'
set_option maxRecDepth 100000 in
theorem without_any (A : Option Addr) (n c : Nat) (l : List Bs) (s : Bs) (hs : s ≠ []) (hl : ∀ x ∈ l, x ≠ []) (hn : l.length ≤ 100000) (w : World) (hr : RowN w A n l) :
    Calls Try.prog 56 #[.slice A n c, nameW s] w (UPost (minus l s) w) := by
  obtain ⟨i0, hi0, hz0, hz1, hz2⟩ := info_parts infoName
  have hnl := hr.1
  have hr' := Lib.hid hr
  have hl' := Lib.hid hl
  clear hr hl
  go_enter Try.func56, Try.ntmps56
  go_wp2_with fail
  go_loopw [5, 10] (fun v i wr => ∃ (k : Nat) (A1 : Option Addr) (c1 : Nat), k ≤ n ∧ i = .int .i64 k ∧ v = .slice A1 (minus (l.take k) s).length c1 ∧ wr.ownsRow (w.heap.size + 1) 61 2 (.slice A1 (minus (l.take k) s).length c1) (minus (l.take k) s).length (NVs (minus (l.take k) s)) ∧
      Below (w.heap.size + 1) (w.alloc (.cells #[.int .u8 (hdI s), str s.tail] 61)) wr)
    (fun _ i _ => n - (intOf i).toNat)
  case atStart => exact ⟨0, none, 0, Nat.zero_le _, rfl, rfl, World.ownsRow_nil _ _ _ _, Below.refl _ _⟩
  case round =>
    obtain ⟨k, A1, c1, hk, rfl, rfl, own1, hbel1⟩ := hrel
    have hbelw : Below w.heap.size w wr := below_step ((Below.refl _ _).alloc (Nat.le_refl _) _ : Below w.heap.size w (w.alloc (.cells #[.int .u8 (hdI s), str s.tail] 61))) (by simp) (by simpa using hbel1)
    obtain ⟨z0, r0, r1, -, -⟩ := two_cells ((hbel1.block w.heap.size (by omega)).trans (heap_alloc_new w _))
    have hbel1' := Lib.hid hbel1
    have hbelw' := Lib.hid hbelw
    have own1' := Lib.hid own1
    clear hbel1 own1
    by_cases hlt : k < n
    · obtain ⟨b, o, rfl, hblt, hc⟩ := hr'.out.2 (by omega)
      have l1 : k < l.length := by omega
      obtain ⟨x0, x1⟩ := hc k l[k] (List.getElem?_eq_getElem l1)
      have hne := hl'.out l[k] (List.getElem_mem l1)
      have htake := Lib.hid (List.take_succ_eq_append_getElem l1)
      have y0 := (hbelw.cell (p := ⟨b, o + k * 2, none⟩) hblt).trans x0
      have y1 := (hbelw.cell (p := ⟨b, o + k * 2 + 1, none⟩) hblt).trans x1
      have hbr : b < wr.heap.size := Nat.lt_of_lt_of_le hblt hbelw.size
      generalize ht : l[k] = t at *
      clear x0 x1 hc hbelw
      have hs1 := hbelw'.out.size
      by_cases hst : t = s
      · subst hst
        have hm := Lib.hid (show minus (l.take (k + 1)) t = minus (l.take k) t from by rw [htake.out, minus_append]; simp [minus])
        go_wp2_with fail
        go_roundw
        case rel => exact ⟨k + 1, A1, c1, by omega, by go_num, by rw [hm.out], by rw [hm.out]; exact own1'.out.alloc _, (hbel1'.out.alloc (by omega) _)⟩
        case measure => simp [intOf]; omega
      · have hm := Lib.hid (show minus (l.take (k + 1)) s = minus (l.take k) s ++ [t] from by rw [htake.out, minus_append]; simp [minus, hst])
        have hml : (minus (l.take k) s).length ≤ 100000 := by have := minus_len (l.take k) s; simp at this; omega
        have key : ∀ (w2 : World) (g cap : Nat), w2.ownsRow (w.heap.size + 1) 61 2 (.slice (some ⟨g, 0, none⟩) ((minus (l.take k) s).length + 1) cap) ((minus (l.take k) s).length + 1) (NVs (minus (l.take k) s) ++ [.int .u8 (hdI t), str t.tail]) →
            w2.ownsRow (w.heap.size + 1) 61 2 (.slice (some ⟨g, 0, none⟩) (minus (l.take (k + 1)) s).length cap) (minus (l.take (k + 1)) s).length (NVs (minus (l.take (k + 1)) s)) := fun w2 g cap h => by
          rw [hm.out, NVs_append, List.length_append]; exact h
        have key' := Lib.hid key
        have hml2 := Lib.hid (show (minus (l.take (k + 1)) s).length = (minus (l.take k) s).length + 1 from by rw [hm.out]; simp)
        clear key hm
        have hcase : (hdI t = hdI s) = False ∨ ((hdI t = hdI s) = True ∧ (t.tail = s.tail) = False) := by
          by_cases h1 : hdI t = hdI s
          · refine .inr ⟨eq_true h1, eq_false fun h2 => hst ((name_eq hne hs).1 ⟨h1, h2⟩)⟩
          · exact .inl (eq_false h1)
        clear hst hnl
        rcases hcase with h1 | ⟨h1, h2⟩
        all_goals
          go_wp2_with (first
            | (at_builtin; go_loud (refine wpList_append_lies _ rfl (.tmp 17) (.tmp 19) 58 rfl (w.heap.size + 1) 61 i0 _ 2 24 Try.underlying58 hi0 hz0 hz1 hz2 rfl (by decide) _ _ _ rfl ((own1'.out.alloc _).alloc _) ⟨wr.heap.size + 1, 0, none⟩ 1 1 [.int .u8 (hdI t), str t.tail] rfl rfl ?c1 ?c2 (by decide) ?c3 ?c4 ?c5 _ rfl ?_))
            | fail)
          case c1 => exact add_cells (second_alloc _ _ _)
          case c2 => intro u hu; simp at hu; rcases hu with rfl | rfl <;> rfl
          case c3 => unfold maxLen; omega
          case c4 => omega
          case c5 => simp; omega
          intro g cap w2 hown2 hgrow hat hlt2
          have hfin := Lib.hid (key'.out _ _ _ hown2)
          have hg2 := Lib.hid ((bb_alloc2 hbel1'.out _ _ (by simp)).grown hgrow (by simp; omega) (fun j hj => (own1'.out.lt j hj).1))
          clear hown2 hgrow hat
          go_wp2_with fail
          go_roundw
          case rel => exact ⟨k + 1, some ⟨g, 0, none⟩, cap, by omega, by go_num, by rw [hml2.out], hfin.out, hg2.out⟩
          case measure => simp [intOf]; omega
    · obtain rfl : k = n := by omega
      have e : l.take k = l := List.take_of_length_le (by omega)
      rw [e] at own1'
      rw [e]
      go_wp2_with fail
      go_ret
      exact ⟨A1, c1, rfl, World.ownsRow.mono own1'.out (by omega), hbelw'.out⟩

/-- Each program's type answers with its free names. -/
def US (p : P) : Prop := ∀ (w : World) (D : Nat → Prop) (x : Value), PI w D p x → (∀ g, D g → g < w.heap.size) → Calls Try.prog (usesFn p) #[x] w (UPost p.uses w)

theorem UPost.up {l : List Bs} {w W w' : World} {e : Ending} (h : UPost l W e w') (hW : Below w.heap.size w W) : UPost l w e w' := by
  obtain ⟨A, c, he, own, hb⟩ := h
  exact ⟨A, c, he, World.ownsRow.mono own hW.size, below_step hW (Nat.le_refl _) hb⟩

theorem uses_nm (s : Bs) : US (.nm s) := by
  intro w D x h _
  obtain ⟨c, d, rfl, rfl⟩ := h
  rw [show usesFn (.nm (c :: d)) = 126 from by simp [usesFn, mfn]]
  have hfin : Hid (UPost [c :: d] w (.returned (.slice (some ⟨w.heap.size + 1, 0, none⟩) 1 1)) ((w.alloc (.cells #[.int .u8 c.toNat, str d] 61)).alloc (.cells #[.int .u8 c.toNat, str d] 61))) :=
    ⟨_, _, rfl, own_block _ (by omega) (second_alloc _ _ _), bb_alloc2 (Below.refl _ _) _ _ (Nat.le_refl _)⟩
  show Calls _ _ _ _ (UPost [c :: d] w)
  go_enter Try.func126, Try.ntmps126
  go_wp2_with fail
  go_ret
  exact hfin.out

set_option maxRecDepth 100000 in
theorem uses_bd (s : Bs) (b : P) (hu : ∀ x ∈ b.uses, x ≠ []) (hn : b.uses.length ≤ 100000) (hb : Hid (US b)) : US (.bd s b) := by
  intro w D x h hD
  obtain ⟨c, d, y, rfl, rfl, hy⟩ := h
  show Calls _ 138 _ _ (UPost (minus b.uses (c :: d)) w)
  have mb := fun w => uses_m hy w
  have cb := fun x w => uses_c b x w
  have hy' := Lib.hid hy
  have hD' := Lib.hid hD
  have hu' := Lib.hid hu
  have hS := three_kept w (.int .u8 c.toNat) (str d) (.iface (pt b) y) 123
  clear hy hD hu
  go_enter Try.func138, Try.ntmps138
  go_wp2_with fail
  go_region_held3 (fun w' => w'.cell? ⟨w.heap.size, 0, none⟩ = some (.int .u8 c.toNat) ∧ w'.cell? ⟨w.heap.size, 1, none⟩ = some (str d) ∧ w'.cell? ⟨w.heap.size, 2, none⟩ = some (.iface (pt b) y))
    (first | exact keep0 hS.out | exact keep1 hS.out hb1 | exact keep2 hS.out hb1 hb2)
    (first
      | (go_at_call 56; refine Calls.mono (without_any A1 _ c1 b.uses (c :: d) (by simp) hu'.out hn _ (RowN.of_own own1)) ?_; rintro e w2 ⟨A2, c2, rfl, own2, hb2⟩)
      | (refine Calls.mono (hb.out _ D _ (hy'.out.below (by repeat (with_reducible first | exact hbel | exact Below.refl _ _ | refine Below.drew ?_ | refine Below.drewN ?_ _ | refine Below.alloc ?_ (by first | (simp; done) | (simp; omega) | omega | (have := Below.size hbel; simp; omega) | (have := Below.size hbel; omega)) _ | refine Below.setCell ?_ (by first | (simp; done) | (simp; omega) | omega) _)) hD'.out) (fun g hg => by have := hD'.out g hg; simp; omega)) ?_; rintro e w1 ⟨A1, c1, rfl, own1, hb1⟩))
  go_wp2_with fail
  go_ret
  exact ⟨A2, c2, rfl, World.ownsRow.mono own2 (by have := hb1.size; simp at this; omega), below_step (below_step (by repeat (with_reducible first | exact hbel | exact Below.refl _ _ | refine Below.drew ?_ | refine Below.drewN ?_ _ | refine Below.alloc ?_ (by first | (simp; done) | (simp; omega) | omega | (have := Below.size hbel; simp; omega) | (have := Below.size hbel; omega)) _ | refine Below.setCell ?_ (by first | (simp; done) | (simp; omega) | omega) _)) (by simp) hb1) (Nat.le_refl _) hb2⟩

def usesL (l : List P) : List Bs := l.flatMap P.uses
theorem usesL_take {l : List P} {j : Nat} {q : P} (h : l[j]? = some q) : usesL (l.take (j + 1)) = usesL (l.take j) ++ q.uses := by
  rw [List.take_add_one, h]; simp [usesL]

set_option maxRecDepth 100000 in
theorem uses_form (p : P) (h : Bs) (ks : List P) (hf : IsForm p h ks) (hk : ∀ q ∈ ks, Hid (US q)) (hn : ∀ j, (usesL (ks.take j)).length ≤ 100000) (w : World) (D : Nat → Prop) (x : Value) (hx : PI w D p x) (hD : ∀ g, D g → g < w.heap.size) :
    Calls Try.prog 158 #[x] w (UPost (usesL ks) w) := by
  obtain ⟨g, n, rfl, hg, hc⟩ := hx.form hf
  obtain ⟨i0, hi0, hz0, hz1, hz2⟩ := info_parts infoName
  have hgw := hD g hg
  have hks := hf.len
  have hk' := Lib.hid hk
  have hD' := Lib.hid hD
  have hc' := Lib.hid hc
  have hn' := Lib.hid hn
  clear hk hD hc hx hn
  go_enter Try.func158, Try.ntmps158
  go_wp2_with fail
  go_loopw [3, 9] (fun v i wr => ∃ (j : Nat) (A1 : Option Addr) (c1 : Nat), j ≤ ks.length ∧ i = .int .i64 j ∧ v = .slice A1 (usesL (ks.take j)).length c1 ∧ wr.ownsRow w.heap.size 61 2 (.slice A1 (usesL (ks.take j)).length c1) (usesL (ks.take j)).length (NVs (usesL (ks.take j))) ∧ Below w.heap.size w wr) (fun _ i _ => ks.length - (intOf i).toNat)
  case atStart => exact ⟨0, none, 0, Nat.zero_le _, rfl, rfl, World.ownsRow_nil _ _ _ _, (by repeat (with_reducible first | exact hbel | exact Below.refl _ _ | refine Below.drew ?_ | refine Below.drewN ?_ _ | refine Below.alloc ?_ (by first | (simp; done) | (simp; omega) | omega | (have := Below.size hbel; simp; omega) | (have := Below.size hbel; omega)) _ | refine Below.setCell ?_ (by first | (simp; done) | (simp; omega) | omega) _))⟩
  case round =>
    obtain ⟨j, A1, c1, hj, rfl, rfl, own1, hbel⟩ := hrel
    have hbel' := Lib.hid hbel
    have own1' := Lib.hid own1
    clear own1
    by_cases hlt : j < ks.length
    · obtain ⟨q, hq⟩ : ∃ q, ks[j]? = some q := ⟨ks[j], List.getElem?_eq_getElem _⟩
      obtain ⟨y, hy, hpi⟩ := hc'.out j q hq
      have hy1 := (hbel.cell (p := ⟨g, j, none⟩) hgw).trans hy
      have hsum := Lib.hid (usesL_take hq)
      have hn1 := hn'.out (j + 1)
      have hn2 : (usesL (ks.take j)).length + q.uses.length ≤ 100000 := by rw [hsum.out, List.length_append] at hn1; exact hn1
      have hUS := hk'.out q (List.mem_of_getElem? hq)
      have mq := fun w => uses_m hpi w
      have cq := fun x w => uses_c q x w
      have hpi' := Lib.hid hpi
      clear hy hpi hq hbel hn1
      go_wp2_with fail
      refine Calls.mono (hUS.out _ D _ (hpi'.out.below hbel'.out hD'.out) (fun g hg => by have := hD'.out g hg; have := hbel'.out.size; omega)) ?_
      rintro e w1 ⟨A2, c2, rfl, own2, hb1⟩
      have own1'' := Lib.hid (own_below own1'.out hb1)
      have own2' := Lib.hid own2
      have hs1 := hbel'.out.size
      have hs2 := hb1.size
      have hb1' := Lib.hid (below_step hbel'.out (Nat.le_refl _) hb1)
      clear own2 hb1 own1'
      go_wp2_with (first
        | (at_builtin; go_loud (refine wpList_append_row rfl (.tmp 13) (.tmp 15) 58 rfl w.heap.size 61 i0 _ 2 24 Try.underlying58 hi0 hz0 hz1 hz2 rfl (by decide) _ _ _ rfl own1''.out wr.heap.size _ _ _ rfl own2'.out ?c1 ?c2 ?c3 ?c4 ?_))
        | fail)
      case c1 => exact NVs_one _
      case c2 => unfold maxLen; omega
      case c3 => omega
      case c4 => omega
      intro A3 c3 w2 own3 hgrow
      have hfin := Lib.hid (show w2.ownsRow w.heap.size 61 2 (.slice A3 (usesL (ks.take (j + 1))).length c3) (usesL (ks.take (j + 1))).length (NVs (usesL (ks.take (j + 1)))) from by
        rw [hsum.out, NVs_append, List.length_append]; exact own3)
      have hlen := Lib.hid (show (usesL (ks.take (j + 1))).length = (usesL (ks.take j)).length + q.uses.length from by rw [hsum.out, List.length_append])
      have hb2 := Lib.hid (hb1'.out.grown hgrow (by omega) (fun k hk => (own1''.out.lt k hk).1))
      clear own3 hgrow
      go_wp2_with fail
      go_roundw
      case rel => exact ⟨j + 1, A3, c3, by omega, by go_num, by rw [hlen.out], hfin.out, hb2.out⟩
      case measure => simp [intOf]; omega
    · have e : j = ks.length := by omega
      subst e
      have hsum : usesL (ks.take ks.length) = usesL ks := by rw [List.take_of_length_le (by simp)]
      rw [hsum] at own1' ⊢
      go_wp2_with fail
      go_ret
      exact ⟨A1, c1, rfl, own1'.out, hbel'.out⟩

theorem P.uses_ne {p : P} (h : p.ok = true) : ∀ x ∈ p.uses, x ≠ [] := fun x hx => isName_ne (P.uses_name h x hx)
theorem uses_any : ∀ {p : P}, p.ok = true → p.size ≤ 1000 → US p
  | .nm s, _, _ => uses_nm s
  | .f1 h p, hk, hs => fun w D x hx hD => by
    rw [P.ok, Bool.and_eq_true] at hk
    rw [P.size] at hs
    have H := uses_any hk.1 (by omega)
    have hl := p.uses_len
    have e : usesL [p] = (P.f1 h p).uses := by simp [usesL, P.uses]
    rw [← e]
    refine uses_form (.f1 h p) h [p] ⟨rfl, rfl⟩ (fun q hq => by simp at hq; subst hq; exact H) (fun j => ?_) w D x hx hD
    match j with
    | 0 => simp [usesL]
    | j + 1 => simp [usesL]; omega
  | .f2 h p q, hk, hs => fun w D x hx hD => by
    rw [P.ok, Bool.and_eq_true, Bool.and_eq_true] at hk
    rw [P.size] at hs
    have H := uses_any hk.1.1 (by omega)
    have H' := uses_any hk.1.2 (by omega)
    have hl := p.uses_len
    have hl' := q.uses_len
    have e : usesL [p, q] = (P.f2 h p q).uses := by simp [usesL, P.uses]
    rw [← e]
    refine uses_form (.f2 h p q) h [p, q] ⟨rfl, rfl⟩ (fun r hr => by simp at hr; rcases hr with rfl | rfl; exact H; exact H') (fun j => ?_) w D x hx hD
    match j with
    | 0 => simp [usesL]
    | 1 => simp [usesL]; omega
    | j + 2 => simp [usesL]; omega
  | .bd s b, hk, hs => by
    rw [P.ok, Bool.and_eq_true, Bool.and_eq_true] at hk
    rw [P.size] at hs
    have hl := b.uses_len
    exact uses_bd s b (P.uses_ne hk.1.2) (by omega) (uses_any hk.1.2 (by omega))

end Go.Proofs.Ytcdagenocmmidaa
