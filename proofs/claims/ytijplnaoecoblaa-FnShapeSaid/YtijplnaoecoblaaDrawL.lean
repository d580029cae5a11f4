/- What is drawn: (*l6Rd).of, l6Open. -/
import Derived.Test.YtijplnaoecoblaaPickR
namespace Go.Proofs.Ytijplnaoecoblaa
set_option linter.unusedVariables false
open Go.RowKit

/-- A call draws: it hands back a text of at most L bytes, and reads on by at most K places. -/
def DRet (r : Nat) (A : Option Addr) (n c P L : Nat) (w : World) (e : Ending) (w' : World) : Prop :=
  ∃ s : ByteArray, s.size ≤ L ∧ e = .returned (.string s) ∧ RD w' r A n c P ∧ SF w r w'

set_option maxRecDepth 100000 in
theorem of_any (r : Nat) (A : Option Addr) (n c P : Nat) (g cap : Nat) (ss : List ByteArray) (L : Nat) (w : World) (h : RD w r A n c P) (hP : P ≤ 1000000) (h1 : 1 ≤ ss.length) (h2 : ss.length ≤ 1000)
    (hg : g < w.heap.size) (hne : g ≠ r) (hc : ∀ (i : Nat) (s : ByteArray), ss[i]? = some s → w.cell? ⟨g, i, none⟩ = some (.string s)) (hL : ∀ s ∈ ss, s.size ≤ L) :
    Calls Try.prog 11 #[.pointer (some ⟨r, 0, none⟩), .slice (some ⟨g, 0, none⟩) ss.length cap] w (DRet r A n c (P + 1) L w) := by
  have hpick := Lib.hid (fun W (hW : RD W r A n c P) => pick_any r A n c P ss.length W hW h1 h2 hP)
  have h' := Lib.hid h
  have hc' := Lib.hid hc
  have hL' := Lib.hid hL
  clear h hc hL
  go_enter Try.func11, Try.ntmps11
  go_wp2_with fail
  refine Calls.mono (hpick.out _ h'.out) ?_
  rintro e w1 ⟨k, hk, rfl, rd1, sb1⟩
  have hx := hc'.out k ss[k] (List.getElem?_eq_getElem hk)
  have hx1 := (sb1.cell (o := k) hg hne).trans hx
  have hlk := hL'.out ss[k] (List.getElem_mem hk)
  have hk1 : (k : Int) < (ss.length : Int) := by omega
  have hg1 : g < w1.heap.size := Nat.lt_of_lt_of_le hg sb1.size
  generalize ss[k] = t at *
  have hlk' := Lib.hid hlk
  have rd1' := Lib.hid rd1
  have sb1' := Lib.hid sb1
  clear hlk rd1 sb1 hx
  go_wp2_with fail
  go_ret
  exact ⟨t, hlk'.out, rfl, rd1'.out, sb1'.out⟩

theorem DRet.from {r : Nat} {A : Option Addr} {n c P L : Nat} {w W : World} {e : Ending} {w' : World} (hW : SF w r W) (h : DRet r A n c P L W e w') : DRet r A n c P L w e w' := by
  obtain ⟨s, hs, he, rd, sb⟩ := h
  exact ⟨s, hs, he, rd, sf_trans hW sb⟩
theorem RD.alloc {w : World} {r : Nat} {A : Option Addr} {n c P : Nat} (h : RD w r A n c P) (o : Obj) : RD (w.alloc o) r A n c P := by
  obtain ⟨⟨p, hp, hb⟩, hrow, hne, hl⟩ := h
  have hr : r < w.heap.size := (two_cells hb).1
  refine ⟨⟨p, hp, (Below.heap_alloc _ _ _ hr).trans hb⟩, fun hn => ?_, hne, hl⟩
  obtain ⟨b, o', e, hlt, hc⟩ := hrow hn
  exact ⟨b, o', e, by simp; omega, fun i hi => by
    obtain ⟨z, hz, h⟩ := hc i hi
    exact ⟨z, hz, (World.cell?_alloc_lt _ _ _ (by exact hlt)).trans h⟩⟩
theorem RD.lt {w : World} {r : Nat} {A : Option Addr} {n c P : Nat} (h : RD w r A n c P) : r < w.heap.size := by
  obtain ⟨⟨p, hp, hb⟩, _⟩ := h
  exact (two_cells hb).1
theorem RD.mono {w : World} {r : Nat} {A : Option Addr} {n c P Q : Nat} (h : RD w r A n c P) (hPQ : P ≤ Q) : RD w r A n c Q := by
  obtain ⟨⟨p, hp, hb⟩, h2, h3, h4⟩ := h
  exact ⟨⟨p, by omega, hb⟩, h2, h3, h4⟩

/-- A list of texts that the text itself writes out, read from. -/
theorem of_lit (r : Nat) (A : Option Addr) (n c P : Nat) (ss : List ByteArray) (L : Nat) (w : World) (h : RD w r A n c P) (hP : P ≤ 1000000) (h1 : 1 ≤ ss.length) (h2 : ss.length ≤ 1000) (hL : ∀ s ∈ ss, s.size ≤ L) (cs : Array Value) (hcs : cs = (ss.map Value.string).toArray) (cap : Nat) (E : TypeId) :
    Calls Try.prog 11 #[.pointer (some ⟨r, 0, none⟩), .slice (some ⟨w.heap.size, 0, none⟩) ss.length cap] (w.alloc (.cells cs E)) (DRet r A n c (P + 1) L w) := by
  have hr := h.lt
  refine Calls.mono (of_any r A n c P w.heap.size cap ss L (w.alloc (.cells cs E)) (h.alloc _) hP h1 h2 (by simp) (by omega) (fun i s hi => ?_) hL) (fun e w' hd => hd.from (sf_alloc (sf_refl w r) _))
  subst hcs
  exact block_cells (heap_alloc_new w _) i _ (by simp [hi])

def DTm (d : Int) (K L : Nat) : Prop := ∀ (r : Nat) (A : Option Addr) (n c P : Nat) (w : World), RD w r A n c P → P + K ≤ 100000 → Calls Try.prog 12 #[.pointer (some ⟨r, 0, none⟩), .int .i64 d] w (DRet r A n c (P + K) L w)
def DC (d : Int) (K L : Nat) : Prop := ∀ (r : Nat) (A : Option Addr) (n c P : Nat) (w : World), RD w r A n c P → P + K ≤ 100000 → Calls Try.prog 19 #[.pointer (some ⟨r, 0, none⟩), .int .i64 d] w (DRet r A n c (P + K) L w)
def DS (d : Int) (K L : Nat) : Prop := ∀ (r : Nat) (A : Option Addr) (n c P : Nat) (w : World), RD w r A n c P → P + K ≤ 100000 → Calls Try.prog 20 #[.pointer (some ⟨r, 0, none⟩), .int .i64 d] w (DRet r A n c (P + K) L w)
theorem lit_size (l : List UInt8) : (⟨l.toArray⟩ : ByteArray).size = l.length := rfl

theorem DTm.mono {d : Int} {K K' L L' : Nat} (h : DTm d K L) (hK : K ≤ K') (hL : L ≤ L') : DTm d K' L' := fun r A n c P w hr hP =>
  Calls.mono (h r A n c P w hr (by omega)) (fun e w' ⟨s, hs, he, rd, sb⟩ => ⟨s, by omega, he, rd.mono (by omega), sb⟩)
theorem DC.mono {d : Int} {K K' L L' : Nat} (h : DC d K L) (hK : K ≤ K') (hL : L ≤ L') : DC d K' L' := fun r A n c P w hr hP =>
  Calls.mono (h r A n c P w hr (by omega)) (fun e w' ⟨s, hs, he, rd, sb⟩ => ⟨s, by omega, he, rd.mono (by omega), sb⟩)
theorem DS.mono {d : Int} {K K' L L' : Nat} (h : DS d K L) (hK : K ≤ K') (hL : L ≤ L') : DS d K' L' := fun r A n c P w hr hP =>
  Calls.mono (h r A n c P w hr (by omega)) (fun e w' ⟨s, hs, he, rd, sb⟩ => ⟨s, by omega, he, rd.mono (by omega), sb⟩)
set_option maxRecDepth 100000 in
theorem dt_zero (d : Int) (hd : d ≤ 0) : DTm d 1 2 := by
  intro r A n c P w h hP
  have rd0 := Lib.hid h
  have sb0 := Lib.hid (sf_refl w r)
  clear h
  go_enter Try.func12, Try.ntmps12
  have call1 := Lib.hid (of_lit r A n c (P) [⟨#[120]⟩, ⟨#[121]⟩, ⟨#[120, 49]⟩, ⟨#[122]⟩] 2 w rd0.out (by omega) (by simp) (by simp) (by decide) #[.string ⟨#[120]⟩, .string ⟨#[121]⟩, .string ⟨#[120, 49]⟩, .string ⟨#[122]⟩] rfl 4 9)
  go_wp2_with fail
  refine Calls.mono call1.out ?_
  rintro e w1 ⟨s1, hs1, rfl, rd, sb⟩
  have rd1 := Lib.hid rd
  have sb1 := Lib.hid (sf_trans sb0.out sb)
  clear rd sb
  go_wp2_with fail
  go_ret
  exact ⟨_, by (try simp only [ByteArray.size_append, lit_size, List.length_cons, List.length_nil]); omega, rfl, rd1.out.mono (by omega), sb1.out⟩

set_option maxRecDepth 100000 in
set_option maxHeartbeats 1000000 in
theorem dt_succ (d : Int) (hd : 0 < d) (hd2 : d ≤ 100) (K L S M : Nat) (hL : L ≤ 4000) (hS : S ≤ 4000) (hK : K ≤ 9000) (hM1 : 2 * L + 9 ≤ M) (hM2 : S + 9 ≤ M) (ht : Hid (DTm (d - 1) K L)) (hc : Hid (DC (d - 1) K L)) (hs : Hid (DS (d - 1) K S)) : DTm d (2 * K + 4) M := by
  intro r A n c P w h hP
  have hp1 := Lib.hid (pick_any r A n c P 4 w h (by omega) (by omega) (by omega))
  clear h
  go_enter Try.func12, Try.ntmps12
  go_wp2_with fail
  refine Calls.mono hp1.out ?_
  rintro e w1 ⟨k, hk, rfl, rd, sb⟩
  have rd1 := Lib.hid rd
  have sb1 := Lib.hid sb
  clear rd sb
  by_cases hk0 : k = 0
  · subst hk0
    have call2 := Lib.hid (of_lit r A n c (P + 1) [⟨#[120]⟩, ⟨#[121]⟩, ⟨#[120, 49]⟩, ⟨#[122]⟩] 2 w1 rd1.out (by omega) (by simp) (by simp) (by decide) #[.string ⟨#[120]⟩, .string ⟨#[121]⟩, .string ⟨#[120, 49]⟩, .string ⟨#[122]⟩] rfl 4 9)
    go_wp2_with fail
    refine Calls.mono call2.out ?_
    rintro e w2 ⟨s2, hs2, rfl, rd, sb⟩
    have rd2 := Lib.hid rd
    have sb2 := Lib.hid (sf_trans sb1.out sb)
    clear rd sb
    go_wp2_with fail
    go_ret
    exact ⟨_, by (try simp only [ByteArray.size_append, lit_size, List.length_cons, List.length_nil]); omega, rfl, rd2.out.mono (by omega), sb2.out⟩
  · have hk1 : ((k : Int) == 0) = false := by rw [beq_eq_false_iff_ne]; omega
    have hp2 := Lib.hid (pick_any r A n c (P + 1) 6 w1 rd1.out (by omega) (by omega) (by omega))
    go_wp2_with fail
    refine Calls.mono hp2.out ?_
    rintro e w2 ⟨k2, hk2, rfl, rd, sb⟩
    have rd2 := Lib.hid rd
    have sb2 := Lib.hid (sf_trans sb1.out sb)
    clear rd sb
    have hcase : k2 = 0 ∨ k2 = 1 ∨ k2 = 2 ∨ 3 ≤ k2 := by omega
    rcases hcase with rfl | rfl | rfl | h3
    · go_wp2_with fail
      refine Calls.mono (ht.out r A n c (P + 1 + 1) w2 rd2.out (by omega)) ?_
      rintro e w3 ⟨s3, hs3, rfl, rd, sb⟩
      have rd3 := Lib.hid rd
      have sb3 := Lib.hid (sf_trans sb2.out sb)
      clear rd sb
      go_wp2_with fail
      refine Calls.mono (ht.out r A n c (P + 1 + 1 + K) w3 rd3.out (by omega)) ?_
      rintro e w4 ⟨s4, hs4, rfl, rd, sb⟩
      have rd4 := Lib.hid rd
      have sb4 := Lib.hid (sf_trans sb3.out sb)
      clear rd sb
      go_wp2_with fail
      go_ret
      exact ⟨_, by (try simp only [ByteArray.size_append, lit_size, List.length_cons, List.length_nil]); omega, rfl, rd4.out.mono (by omega), sb4.out⟩
    · have call3 := Lib.hid (of_lit r A n c (P + 1 + 1) [⟨#[105, 110, 108]⟩, ⟨#[105, 110, 114]⟩] 3 w2 rd2.out (by omega) (by simp) (by simp) (by decide) #[.string ⟨#[105, 110, 108]⟩, .string ⟨#[105, 110, 114]⟩] rfl 2 9)
      go_wp2_with fail
      refine Calls.mono call3.out ?_
      rintro e w3 ⟨s3, hs3, rfl, rd, sb⟩
      have rd3 := Lib.hid rd
      have sb3 := Lib.hid (sf_trans sb2.out sb)
      clear rd sb
      go_wp2_with fail
      refine Calls.mono (ht.out r A n c (P + 1 + 1 + 1) w3 rd3.out (by omega)) ?_
      rintro e w4 ⟨s4, hs4, rfl, rd, sb⟩
      have rd4 := Lib.hid rd
      have sb4 := Lib.hid (sf_trans sb3.out sb)
      clear rd sb
      go_wp2_with fail
      go_ret
      exact ⟨_, by (try simp only [ByteArray.size_append, lit_size, List.length_cons, List.length_nil]); omega, rfl, rd4.out.mono (by omega), sb4.out⟩
    · go_wp2_with fail
      refine Calls.mono (hc.out r A n c (P + 1 + 1) w2 rd2.out (by omega)) ?_
      rintro e w3 ⟨s3, hs3, rfl, rd, sb⟩
      have rd3 := Lib.hid rd
      have sb3 := Lib.hid (sf_trans sb2.out sb)
      clear rd sb
      go_wp2_with fail
      go_ret
      exact ⟨_, by (try simp only [ByteArray.size_append, lit_size, List.length_cons, List.length_nil]); omega, rfl, rd3.out.mono (by omega), sb3.out⟩
    · have q0 : ((k2 : Int) == 0) = false := by rw [beq_eq_false_iff_ne]; omega
      have q1 : ((k2 : Int) == 1) = false := by rw [beq_eq_false_iff_ne]; omega
      have q2 : ((k2 : Int) == 2) = false := by rw [beq_eq_false_iff_ne]; omega
      have call3 := Lib.hid (of_lit r A n c (P + 1 + 1) [⟨#[107]⟩, ⟨#[108]⟩, ⟨#[107, 49]⟩] 2 w2 rd2.out (by omega) (by simp) (by simp) (by decide) #[.string ⟨#[107]⟩, .string ⟨#[108]⟩, .string ⟨#[107, 49]⟩] rfl 3 9)
      go_wp2_with fail
      refine Calls.mono call3.out ?_
      rintro e w3 ⟨s3, hs3, rfl, rd, sb⟩
      have rd3 := Lib.hid rd
      have sb3 := Lib.hid (sf_trans sb2.out sb)
      clear rd sb
      go_wp2_with fail
      refine Calls.mono (hs.out r A n c (P + 1 + 1 + 1) w3 rd3.out (by omega)) ?_
      rintro e w4 ⟨s4, hs4, rfl, rd, sb⟩
      have rd4 := Lib.hid rd
      have sb4 := Lib.hid (sf_trans sb3.out sb)
      clear rd sb
      go_wp2_with fail
      go_ret
      exact ⟨_, by (try simp only [ByteArray.size_append, lit_size, List.length_cons, List.length_nil]); omega, rfl, rd4.out.mono (by omega), sb4.out⟩

set_option maxRecDepth 100000 in
theorem dc_zero (d : Int) (hd : d ≤ 0) : DC d 1 2 := by
  intro r A n c P w h hP
  have rd0 := Lib.hid h
  have sb0 := Lib.hid (sf_refl w r)
  clear h
  go_enter Try.func19, Try.ntmps19
  have call1 := Lib.hid (of_lit r A n c (P) [⟨#[107]⟩, ⟨#[108]⟩, ⟨#[107, 49]⟩, ⟨#[109]⟩] 2 w rd0.out (by omega) (by simp) (by simp) (by decide) #[.string ⟨#[107]⟩, .string ⟨#[108]⟩, .string ⟨#[107, 49]⟩, .string ⟨#[109]⟩] rfl 4 9)
  go_wp2_with fail
  refine Calls.mono call1.out ?_
  rintro e w1 ⟨s1, hs1, rfl, rd, sb⟩
  have rd1 := Lib.hid rd
  have sb1 := Lib.hid (sf_trans sb0.out sb)
  clear rd sb
  go_wp2_with fail
  go_ret
  exact ⟨_, by (try simp only [ByteArray.size_append, lit_size, List.length_cons, List.length_nil]); omega, rfl, rd1.out.mono (by omega), sb1.out⟩

set_option maxRecDepth 100000 in
set_option maxHeartbeats 1000000 in
theorem dc_succ (d : Int) (hd : 0 < d) (hd2 : d ≤ 100) (K L S M : Nat) (hL : L ≤ 4000) (hS : S ≤ 4000) (hK : K ≤ 9000) (hM1 : 2 * L + 9 ≤ M) (hM2 : S + 9 ≤ M) (ht : Hid (DTm (d - 1) K L)) (hc : Hid (DC (d - 1) K L)) (hs : Hid (DS (d - 1) K S)) : DC d (2 * K + 4) M := by
  intro r A n c P w h hP
  have hp1 := Lib.hid (pick_any r A n c P 4 w h (by omega) (by omega) (by omega))
  clear h
  go_enter Try.func19, Try.ntmps19
  go_wp2_with fail
  refine Calls.mono hp1.out ?_
  rintro e w1 ⟨k, hk, rfl, rd, sb⟩
  have rd1 := Lib.hid rd
  have sb1 := Lib.hid sb
  clear rd sb
  by_cases hk0 : k = 0
  · subst hk0
    have call2 := Lib.hid (of_lit r A n c (P + 1) [⟨#[107]⟩, ⟨#[108]⟩, ⟨#[107, 49]⟩, ⟨#[109]⟩] 2 w1 rd1.out (by omega) (by simp) (by simp) (by decide) #[.string ⟨#[107]⟩, .string ⟨#[108]⟩, .string ⟨#[107, 49]⟩, .string ⟨#[109]⟩] rfl 4 9)
    go_wp2_with fail
    refine Calls.mono call2.out ?_
    rintro e w2 ⟨s2, hs2, rfl, rd, sb⟩
    have rd2 := Lib.hid rd
    have sb2 := Lib.hid (sf_trans sb1.out sb)
    clear rd sb
    go_wp2_with fail
    go_ret
    exact ⟨_, by (try simp only [ByteArray.size_append, lit_size, List.length_cons, List.length_nil]); omega, rfl, rd2.out.mono (by omega), sb2.out⟩
  · have hk1 : ((k : Int) == 0) = false := by rw [beq_eq_false_iff_ne]; omega
    have hp2 := Lib.hid (pick_any r A n c (P + 1) 6 w1 rd1.out (by omega) (by omega) (by omega))
    go_wp2_with fail
    refine Calls.mono hp2.out ?_
    rintro e w2 ⟨k2, hk2, rfl, rd, sb⟩
    have rd2 := Lib.hid rd
    have sb2 := Lib.hid (sf_trans sb1.out sb)
    clear rd sb
    have hcase : k2 = 0 ∨ k2 = 1 ∨ k2 = 2 ∨ 3 ≤ k2 := by omega
    rcases hcase with rfl | rfl | rfl | h3
    · go_wp2_with fail
      refine Calls.mono (hc.out r A n c (P + 1 + 1) w2 rd2.out (by omega)) ?_
      rintro e w3 ⟨s3, hs3, rfl, rd, sb⟩
      have rd3 := Lib.hid rd
      have sb3 := Lib.hid (sf_trans sb2.out sb)
      clear rd sb
      go_wp2_with fail
      refine Calls.mono (hc.out r A n c (P + 1 + 1 + K) w3 rd3.out (by omega)) ?_
      rintro e w4 ⟨s4, hs4, rfl, rd, sb⟩
      have rd4 := Lib.hid rd
      have sb4 := Lib.hid (sf_trans sb3.out sb)
      clear rd sb
      go_wp2_with fail
      go_ret
      exact ⟨_, by (try simp only [ByteArray.size_append, lit_size, List.length_cons, List.length_nil]); omega, rfl, rd4.out.mono (by omega), sb4.out⟩
    · have call3 := Lib.hid (of_lit r A n c (P + 1 + 1) [⟨#[102, 115, 116]⟩, ⟨#[115, 110, 100]⟩] 3 w2 rd2.out (by omega) (by simp) (by simp) (by decide) #[.string ⟨#[102, 115, 116]⟩, .string ⟨#[115, 110, 100]⟩] rfl 2 9)
      go_wp2_with fail
      refine Calls.mono call3.out ?_
      rintro e w3 ⟨s3, hs3, rfl, rd, sb⟩
      have rd3 := Lib.hid rd
      have sb3 := Lib.hid (sf_trans sb2.out sb)
      clear rd sb
      go_wp2_with fail
      refine Calls.mono (hc.out r A n c (P + 1 + 1 + 1) w3 rd3.out (by omega)) ?_
      rintro e w4 ⟨s4, hs4, rfl, rd, sb⟩
      have rd4 := Lib.hid rd
      have sb4 := Lib.hid (sf_trans sb3.out sb)
      clear rd sb
      go_wp2_with fail
      go_ret
      exact ⟨_, by (try simp only [ByteArray.size_append, lit_size, List.length_cons, List.length_nil]); omega, rfl, rd4.out.mono (by omega), sb4.out⟩
    · go_wp2_with fail
      refine Calls.mono (ht.out r A n c (P + 1 + 1) w2 rd2.out (by omega)) ?_
      rintro e w3 ⟨s3, hs3, rfl, rd, sb⟩
      have rd3 := Lib.hid rd
      have sb3 := Lib.hid (sf_trans sb2.out sb)
      clear rd sb
      go_wp2_with fail
      go_ret
      exact ⟨_, by (try simp only [ByteArray.size_append, lit_size, List.length_cons, List.length_nil]); omega, rfl, rd3.out.mono (by omega), sb3.out⟩
    · have q0 : ((k2 : Int) == 0) = false := by rw [beq_eq_false_iff_ne]; omega
      have q1 : ((k2 : Int) == 1) = false := by rw [beq_eq_false_iff_ne]; omega
      have q2 : ((k2 : Int) == 2) = false := by rw [beq_eq_false_iff_ne]; omega
      have call3 := Lib.hid (of_lit r A n c (P + 1 + 1) [⟨#[120]⟩, ⟨#[121]⟩, ⟨#[120, 49]⟩] 2 w2 rd2.out (by omega) (by simp) (by simp) (by decide) #[.string ⟨#[120]⟩, .string ⟨#[121]⟩, .string ⟨#[120, 49]⟩] rfl 3 9)
      go_wp2_with fail
      refine Calls.mono call3.out ?_
      rintro e w3 ⟨s3, hs3, rfl, rd, sb⟩
      have rd3 := Lib.hid rd
      have sb3 := Lib.hid (sf_trans sb2.out sb)
      clear rd sb
      go_wp2_with fail
      refine Calls.mono (hs.out r A n c (P + 1 + 1 + 1) w3 rd3.out (by omega)) ?_
      rintro e w4 ⟨s4, hs4, rfl, rd, sb⟩
      have rd4 := Lib.hid rd
      have sb4 := Lib.hid (sf_trans sb3.out sb)
      clear rd sb
      go_wp2_with fail
      go_ret
      exact ⟨_, by (try simp only [ByteArray.size_append, lit_size, List.length_cons, List.length_nil]); omega, rfl, rd4.out.mono (by omega), sb4.out⟩

set_option maxRecDepth 100000 in
set_option maxHeartbeats 1000000 in
theorem ds_any (d : Int) (hd : 0 ≤ d) (hd2 : d ≤ 100) (K L1 L M : Nat) (hL1 : L1 ≤ 4000) (hL : L ≤ 4000) (hK : K ≤ 9000) (hM1 : 3 * L1 + 21 ≤ M) (hM2 : 2 * L + 7 ≤ M) (ht1 : Hid (DTm (d - 1) K L1)) (hc1 : Hid (DC (d - 1) K L1)) (ht : Hid (DTm d K L)) (hc : Hid (DC d K L)) : DS d (3 * K + 5) M := by
  intro r A n c P w h hP
  have hp1 := Lib.hid (pick_any r A n c P 8 w h (by omega) (by omega) (by omega))
  clear h
  go_enter Try.func20, Try.ntmps20
  go_wp2_with fail
  refine Calls.mono hp1.out ?_
  rintro e w1 ⟨k2, hk2, rfl, rd, sb⟩
  have rd1 := Lib.hid rd
  have sb1 := Lib.hid sb
  clear rd sb
  have hcase : k2 = 0 ∨ k2 = 1 ∨ k2 = 2 ∨ 3 ≤ k2 := by omega
  rcases hcase with rfl | rfl | rfl | h3
  · go_wp2_with fail
    refine Calls.mono (ht1.out r A n c (P + 1) w1 rd1.out (by omega)) ?_
    rintro e w2 ⟨s2, hs2, rfl, rd, sb⟩
    have rd2 := Lib.hid rd
    have sb2 := Lib.hid (sf_trans sb1.out sb)
    clear rd sb
    go_wp2_with fail
    refine Calls.mono (ht1.out r A n c (P + 1 + K) w2 rd2.out (by omega)) ?_
    rintro e w3 ⟨s3, hs3, rfl, rd, sb⟩
    have rd3 := Lib.hid rd
    have sb3 := Lib.hid (sf_trans sb2.out sb)
    clear rd sb
    have call4 := Lib.hid (of_lit r A n c (P + 1 + K + K) [⟨#[102, 115, 116]⟩, ⟨#[115, 110, 100]⟩] 3 w3 rd3.out (by omega) (by simp) (by simp) (by decide) #[.string ⟨#[102, 115, 116]⟩, .string ⟨#[115, 110, 100]⟩] rfl 2 9)
    go_wp2_with fail
    refine Calls.mono call4.out ?_
    rintro e w4 ⟨s4, hs4, rfl, rd, sb⟩
    have rd4 := Lib.hid rd
    have sb4 := Lib.hid (sf_trans sb3.out sb)
    clear rd sb
    go_wp2_with fail
    refine Calls.mono (hc1.out r A n c (P + 1 + K + K + 1) w4 rd4.out (by omega)) ?_
    rintro e w5 ⟨s5, hs5, rfl, rd, sb⟩
    have rd5 := Lib.hid rd
    have sb5 := Lib.hid (sf_trans sb4.out sb)
    clear rd sb
    go_wp2_with fail
    go_ret
    exact ⟨_, by (try simp only [ByteArray.size_append, lit_size, List.length_cons, List.length_nil]); omega, rfl, rd5.out.mono (by omega), sb5.out⟩
  · have call2 := Lib.hid (of_lit r A n c (P + 1) [⟨#[105, 110, 108]⟩, ⟨#[105, 110, 114]⟩] 3 w1 rd1.out (by omega) (by simp) (by simp) (by decide) #[.string ⟨#[105, 110, 108]⟩, .string ⟨#[105, 110, 114]⟩] rfl 2 9)
    go_wp2_with fail
    refine Calls.mono call2.out ?_
    rintro e w2 ⟨s2, hs2, rfl, rd, sb⟩
    have rd2 := Lib.hid rd
    have sb2 := Lib.hid (sf_trans sb1.out sb)
    clear rd sb
    go_wp2_with fail
    refine Calls.mono (ht1.out r A n c (P + 1 + 1) w2 rd2.out (by omega)) ?_
    rintro e w3 ⟨s3, hs3, rfl, rd, sb⟩
    have rd3 := Lib.hid rd
    have sb3 := Lib.hid (sf_trans sb2.out sb)
    clear rd sb
    go_wp2_with fail
    refine Calls.mono (hc1.out r A n c (P + 1 + 1 + K) w3 rd3.out (by omega)) ?_
    rintro e w4 ⟨s4, hs4, rfl, rd, sb⟩
    have rd4 := Lib.hid rd
    have sb4 := Lib.hid (sf_trans sb3.out sb)
    clear rd sb
    go_wp2_with fail
    refine Calls.mono (hc1.out r A n c (P + 1 + 1 + K + K) w4 rd4.out (by omega)) ?_
    rintro e w5 ⟨s5, hs5, rfl, rd, sb⟩
    have rd5 := Lib.hid rd
    have sb5 := Lib.hid (sf_trans sb4.out sb)
    clear rd sb
    go_wp2_with fail
    go_ret
    exact ⟨_, by (try simp only [ByteArray.size_append, lit_size, List.length_cons, List.length_nil]); omega, rfl, rd5.out.mono (by omega), sb5.out⟩
  · go_wp2_with fail
    refine Calls.mono (hc1.out r A n c (P + 1) w1 rd1.out (by omega)) ?_
    rintro e w2 ⟨s2, hs2, rfl, rd, sb⟩
    have rd2 := Lib.hid rd
    have sb2 := Lib.hid (sf_trans sb1.out sb)
    clear rd sb
    go_wp2_with fail
    refine Calls.mono (ht1.out r A n c (P + 1 + K) w2 rd2.out (by omega)) ?_
    rintro e w3 ⟨s3, hs3, rfl, rd, sb⟩
    have rd3 := Lib.hid rd
    have sb3 := Lib.hid (sf_trans sb2.out sb)
    clear rd sb
    go_wp2_with fail
    go_ret
    exact ⟨_, by (try simp only [ByteArray.size_append, lit_size, List.length_cons, List.length_nil]); omega, rfl, rd3.out.mono (by omega), sb3.out⟩
  · have q0 : ((k2 : Int) == 0) = false := by rw [beq_eq_false_iff_ne]; omega
    have q1 : ((k2 : Int) == 1) = false := by rw [beq_eq_false_iff_ne]; omega
    have q2 : ((k2 : Int) == 2) = false := by rw [beq_eq_false_iff_ne]; omega
    go_wp2_with fail
    refine Calls.mono (ht.out r A n c (P + 1) w1 rd1.out (by omega)) ?_
    rintro e w2 ⟨s2, hs2, rfl, rd, sb⟩
    have rd2 := Lib.hid rd
    have sb2 := Lib.hid (sf_trans sb1.out sb)
    clear rd sb
    go_wp2_with fail
    refine Calls.mono (hc.out r A n c (P + 1 + K) w2 rd2.out (by omega)) ?_
    rintro e w3 ⟨s3, hs3, rfl, rd, sb⟩
    have rd3 := Lib.hid rd
    have sb3 := Lib.hid (sf_trans sb2.out sb)
    clear rd sb
    go_wp2_with fail
    go_ret
    exact ⟨_, by (try simp only [ByteArray.size_append, lit_size, List.length_cons, List.length_nil]); omega, rfl, rd3.out.mono (by omega), sb3.out⟩


theorem drawS0 : DS 0 8 27 := (ds_any 0 (by omega) (by omega) 1 2 2 27 (by omega) (by omega) (by omega) (by omega) (by omega) (dt_zero _ (by omega)) (dc_zero _ (by omega)) (dt_zero _ (by omega)) (dc_zero _ (by omega)))
theorem drawT1 : DTm 1 20 36 := dt_succ 1 (by omega) (by omega) 8 2 27 36 (by omega) (by omega) (by omega) (by omega) (by omega) ((dt_zero _ (by omega)).mono (by omega) (by omega)) ((dc_zero _ (by omega)).mono (by omega) (by omega)) drawS0
theorem drawC1 : DC 1 20 36 := dc_succ 1 (by omega) (by omega) 8 2 27 36 (by omega) (by omega) (by omega) (by omega) (by omega) ((dt_zero _ (by omega)).mono (by omega) (by omega)) ((dc_zero _ (by omega)).mono (by omega) (by omega)) drawS0
theorem drawS1 : DS 1 65 79 := ds_any 1 (by omega) (by omega) 20 2 36 79 (by omega) (by omega) (by omega) (by omega) (by omega) ((dt_zero _ (by omega)).mono (by omega) (by omega)) ((dc_zero _ (by omega)).mono (by omega) (by omega)) drawT1 drawC1
theorem drawT2 : DTm 2 134 88 := dt_succ 2 (by omega) (by omega) 65 36 79 88 (by omega) (by omega) (by omega) (by omega) (by omega) (drawT1.mono (by omega) (by omega)) (drawC1.mono (by omega) (by omega)) drawS1
theorem drawC2 : DC 2 134 88 := dc_succ 2 (by omega) (by omega) 65 36 79 88 (by omega) (by omega) (by omega) (by omega) (by omega) (drawT1.mono (by omega) (by omega)) (drawC1.mono (by omega) (by omega)) drawS1
theorem drawS2 : DS 2 407 183 := ds_any 2 (by omega) (by omega) 134 36 88 183 (by omega) (by omega) (by omega) (by omega) (by omega) (drawT1.mono (by omega) (by omega)) (drawC1.mono (by omega) (by omega)) drawT2 drawC2
theorem drawT3 : DTm 3 818 192 := dt_succ 3 (by omega) (by omega) 407 88 183 192 (by omega) (by omega) (by omega) (by omega) (by omega) (drawT2.mono (by omega) (by omega)) (drawC2.mono (by omega) (by omega)) drawS2
theorem drawC3 : DC 3 818 192 := dc_succ 3 (by omega) (by omega) 407 88 183 192 (by omega) (by omega) (by omega) (by omega) (by omega) (drawT2.mono (by omega) (by omega)) (drawC2.mono (by omega) (by omega)) drawS2

end Go.Proofs.Ytijplnaoecoblaa
