/- spec.l92Source, l92Sources, and what the laws of source terms draw. -/
import Derived.Test.YtchkmdagbjbcjaaGreatDoorDrawP
import Derived.Test.YtchkmdagbjbcjaaGreatDoorFrG
namespace Go.Proofs.YtchkmdagbjbcjaaGreatDoor
set_option linter.unusedVariables false
open Go.RowKit

theorem own_sf {w w' : World} {r base : Nat} {E : TypeId} {v : Value} {n : Nat} {xs : List Value} (h : w.ownsRow base E 1 v n xs) (hb : SF w r w') (hne : ∀ k, v.ownBlock = some k → k ≠ r) : w'.ownsRow base E 1 v n xs :=
  own_same h (fun j hj => hb.block j (h.lt j hj).2 (hne j hj))
theorem sf_of_below {w w' : World} (r : Nat) (hb : Below w.heap.size w w') : SF w r w' := ⟨hb.size, fun j hj _ => hb.block j hj, hb.os, hb.tape, hb.output⟩
theorem RD.belowR {w W : World} {r : Nat} {A : Option Addr} {n c P : Nat} (h : RD w r A n c P) (hb : Below w.heap.size w W) : RD W r A n c P := by
  obtain ⟨⟨p, hp, hbox⟩, hrow, hne, hl⟩ := h
  have hr : r < w.heap.size := (two_cells hbox).1
  refine ⟨⟨p, hp, (hb.block r hr).trans hbox⟩, fun hn => ?_, hne, hl⟩
  obtain ⟨b, o', e, hlt, hc⟩ := hrow hn
  exact ⟨b, o', e, Nat.lt_of_lt_of_le hlt hb.size, fun i hi => by
    obtain ⟨z, hz, h⟩ := hc i hi
    exact ⟨z, hz, (hb.cell (p := ⟨b, o' + i, none⟩) hlt).trans h⟩⟩
theorem own_cell {w : World} {base g n c : Nat} {E : TypeId} {ss : List ByteArray} (h : w.ownsRow base E 1 (.slice (some ⟨g, 0, none⟩) n c) n (ss.map Value.string)) {i : Nat} {s : ByteArray} (hi : ss[i]? = some s) : w.cell? ⟨g, i, none⟩ = some (.string s) := by
  have h1 := h.cells (g := g) rfl i (.string s) (by rw [List.getElem?_map, hi]; rfl)
  have e : ({ block := g, off := 0, spot := none } : Addr).add i = ⟨g, i, none⟩ := by unfold Addr.add; split <;> simp_all
  rw [e] at h1
  exact h1
theorem names_more {ns : List ByteArray} (h : ∀ s ∈ ns, s.size ≤ 2) {x : ByteArray} (hx : x.size ≤ 2) : ∀ s ∈ ns ++ [x], s.size ≤ 2 := fun s hs => by
  rw [List.mem_append, List.mem_singleton] at hs
  rcases hs with hs | rfl
  · exact h s hs
  · exact hx

def DSR (d : Int) (K L : Nat) : Prop := ∀ (r : Nat) (A : Option Addr) (n c P : Nat) (w : World) (base : Nat) (An : Option Addr) (nn cn : Nat) (ns : List ByteArray), RD w r A n c P → P + K ≤ 100000 →
  w.ownsRow base 9 1 (.slice An nn cn) nn (ns.map Value.string) → (∀ k, (Value.slice An nn cn).ownBlock = some k → k ≠ r) → (nn : Int) + d ≤ 10 → (∀ s ∈ ns, s.size ≤ 2) →
  Calls Tryz.prog 27 #[.pointer (some ⟨r, 0, none⟩), .slice An nn cn, .int .i64 d] w (DRet r A n c (P + K) L w)

set_option maxRecDepth 100000 in
set_option maxHeartbeats 1000000 in
theorem dsr_zero : DSR 0 3 2 := by
  intro r A n c P w base An nn cn ns h hP hown hne hnn hns
  have rd0 := Lib.hid h
  have sb0 := Lib.hid (sf_refl w r)
  have own0 := Lib.hid hown
  clear h hown
  go_enter Tryz.func27, Tryz.ntmps27
  by_cases hn0 : nn = 0
  · subst hn0
    have call1 := Lib.hid (of_lit r A n c (P) [⟨#[120]⟩, ⟨#[121]⟩, ⟨#[122]⟩] 1 w rd0.out (by omega) (by simp) (by simp) (by decide) #[.string ⟨#[120]⟩, .string ⟨#[121]⟩, .string ⟨#[122]⟩] rfl 3 9)
    go_wp2_with fail
    refine Calls.mono call1.out ?_
    rintro e w1 ⟨s1, hs1, rfl, rd, sb⟩
    have rd1 := Lib.hid rd
    have sb1 := Lib.hid (sf_trans sb0.out sb)
    have own1 := Lib.hid (own_sf own0.out sb hne)
    clear rd sb
    go_wp2_with fail
    go_ret
    exact ⟨_, by (try simp only [ByteArray.size_append, lit_size, List.length_cons, List.length_nil]); omega, rfl, rd1.out.mono (by omega), sb1.out⟩
  · obtain ⟨g, cap, hv, -, hglt⟩ := own0.out.form (by omega)
    obtain ⟨rfl, rfl⟩ : An = some ⟨g, 0, none⟩ ∧ cn = cap := by injection hv with h1 h2 h3; exact ⟨h1, h3⟩
    have hgr : g ≠ r := hne g rfl
    have hnl : ns.length = nn := by have := own0.out.1; simpa using this
    have hn1 : (0 : Int) < (nn : Int) := by omega
    have hpa := Lib.hid (pick_any r A n c (P) 5 w rd0.out (by omega) (by omega) (by omega))
    go_wp2_with fail
    refine Calls.mono hpa.out ?_
    rintro e w1 ⟨ka, hka, rfl, rd, sb⟩
    have rd1 := Lib.hid rd
    have sb1 := Lib.hid (sf_trans sb0.out sb)
    have own1 := Lib.hid (own_sf own0.out sb hne)
    clear rd sb
    by_cases hka0 : ka = 0
    · subst hka0
      have call2 := Lib.hid (of_lit r A n c (P + 1) [⟨#[120]⟩, ⟨#[121]⟩, ⟨#[122]⟩] 1 w1 rd1.out (by omega) (by simp) (by simp) (by decide) #[.string ⟨#[120]⟩, .string ⟨#[121]⟩, .string ⟨#[122]⟩] rfl 3 9)
      go_wp2_with fail
      refine Calls.mono call2.out ?_
      rintro e w2 ⟨s2, hs2, rfl, rd, sb⟩
      have rd2 := Lib.hid rd
      have sb2 := Lib.hid (sf_trans sb1.out sb)
      have own2 := Lib.hid (own_sf own1.out sb hne)
      clear rd sb
      go_wp2_with fail
      go_ret
      exact ⟨_, by (try simp only [ByteArray.size_append, lit_size, List.length_cons, List.length_nil]); omega, rfl, rd2.out.mono (by omega), sb2.out⟩
    · have hka1 : (0 : Int) < (ka : Int) := by omega
      have hpb := Lib.hid (pick_any r A n c (P + 1) nn w1 rd1.out (by omega) (by omega) (by omega))
      go_wp2_with fail
      refine Calls.mono hpb.out ?_
      rintro e w2 ⟨kb, hkb, rfl, rd, sb⟩
      have rd2 := Lib.hid rd
      have sb2 := Lib.hid (sf_trans sb1.out sb)
      have own2 := Lib.hid (own_sf own1.out sb hne)
      clear rd sb
      obtain ⟨t, ht⟩ : ∃ t, ns[kb]? = some t := ⟨ns[kb], List.getElem?_eq_getElem (by omega)⟩
      have htl := hns t (List.mem_of_getElem? ht)
      have hx1 : w2.cell? ⟨g, kb, none⟩ = some (.string t) := own_cell own2.out ht
      have hkb1 : (kb : Int) < (nn : Int) := by omega
      go_wp2_with fail
      go_ret
      exact ⟨t, by omega, rfl, rd2.out.mono (by omega), sb2.out⟩

set_option maxRecDepth 100000 in
set_option maxHeartbeats 2000000 in
theorem dsr_succ (d : Int) (hd : 0 < d) (hd2 : d ≤ 9) (K L M : Nat) (hL : L ≤ 4000) (hK : K ≤ 9000) (hM : 2 * L + 20 ≤ M) (hs : Hid (DSR (d - 1) K L)) : DSR d (2 * K + 4) M := by
  intro r A n c P w base An nn cn ns h hP hown hne hnn hns
  have hp1 := Lib.hid (pick_any r A n c P 6 w h (by omega) (by omega) (by omega))
  have own0 := Lib.hid hown
  have sb0 := Lib.hid (sf_refl w r)
  clear h hown
  have hd3 : ¬ d ≤ 0 := by omega
  go_enter Tryz.func27, Tryz.ntmps27
  go_wp2_with fail
  refine Calls.mono hp1.out ?_
  rintro e w1 ⟨k, hk, rfl, rd, sb⟩
  have rd1 := Lib.hid rd
  have sb1 := Lib.hid (sf_trans sb0.out sb)
  have own1 := Lib.hid (own_sf own0.out sb hne)
  clear rd sb
  by_cases hk0 : k = 0
  · subst hk0
    by_cases hn0 : nn = 0
    · subst hn0
      have call2 := Lib.hid (of_lit r A n c (P + 1) [⟨#[120]⟩, ⟨#[121]⟩, ⟨#[122]⟩] 1 w1 rd1.out (by omega) (by simp) (by simp) (by decide) #[.string ⟨#[120]⟩, .string ⟨#[121]⟩, .string ⟨#[122]⟩] rfl 3 9)
      go_wp2_with fail
      refine Calls.mono call2.out ?_
      rintro e w2 ⟨s2, hs2, rfl, rd, sb⟩
      have rd2 := Lib.hid rd
      have sb2 := Lib.hid (sf_trans sb1.out sb)
      have own2 := Lib.hid (own_sf own1.out sb hne)
      clear rd sb
      go_wp2_with fail
      go_ret
      exact ⟨_, by (try simp only [ByteArray.size_append, lit_size, List.length_cons, List.length_nil]); omega, rfl, rd2.out.mono (by omega), sb2.out⟩
    · obtain ⟨g, cap, hv, -, hglt⟩ := own1.out.form (by omega)
      obtain ⟨rfl, rfl⟩ : An = some ⟨g, 0, none⟩ ∧ cn = cap := by injection hv with h1 h2 h3; exact ⟨h1, h3⟩
      have hgr : g ≠ r := hne g rfl
      have hnl : ns.length = nn := by have := own1.out.1; simpa using this
      have hn1 : (0 : Int) < (nn : Int) := by omega
      have hpa := Lib.hid (pick_any r A n c (P + 1) 5 w1 rd1.out (by omega) (by omega) (by omega))
      go_wp2_with fail
      refine Calls.mono hpa.out ?_
      rintro e w2 ⟨ka, hka, rfl, rd, sb⟩
      have rd2 := Lib.hid rd
      have sb2 := Lib.hid (sf_trans sb1.out sb)
      have own2 := Lib.hid (own_sf own1.out sb hne)
      clear rd sb
      by_cases hka0 : ka = 0
      · subst hka0
        have call3 := Lib.hid (of_lit r A n c (P + 1 + 1) [⟨#[120]⟩, ⟨#[121]⟩, ⟨#[122]⟩] 1 w2 rd2.out (by omega) (by simp) (by simp) (by decide) #[.string ⟨#[120]⟩, .string ⟨#[121]⟩, .string ⟨#[122]⟩] rfl 3 9)
        go_wp2_with fail
        refine Calls.mono call3.out ?_
        rintro e w3 ⟨s3, hs3, rfl, rd, sb⟩
        have rd3 := Lib.hid rd
        have sb3 := Lib.hid (sf_trans sb2.out sb)
        have own3 := Lib.hid (own_sf own2.out sb hne)
        clear rd sb
        go_wp2_with fail
        go_ret
        exact ⟨_, by (try simp only [ByteArray.size_append, lit_size, List.length_cons, List.length_nil]); omega, rfl, rd3.out.mono (by omega), sb3.out⟩
      · have hka1 : (0 : Int) < (ka : Int) := by omega
        have hpb := Lib.hid (pick_any r A n c (P + 1 + 1) nn w2 rd2.out (by omega) (by omega) (by omega))
        go_wp2_with fail
        refine Calls.mono hpb.out ?_
        rintro e w3 ⟨kb, hkb, rfl, rd, sb⟩
        have rd3 := Lib.hid rd
        have sb3 := Lib.hid (sf_trans sb2.out sb)
        have own3 := Lib.hid (own_sf own2.out sb hne)
        clear rd sb
        obtain ⟨t, ht⟩ : ∃ t, ns[kb]? = some t := ⟨ns[kb], List.getElem?_eq_getElem (by omega)⟩
        have htl := hns t (List.mem_of_getElem? ht)
        have hx1 : w3.cell? ⟨g, kb, none⟩ = some (.string t) := own_cell own3.out ht
        have hkb1 : (kb : Int) < (nn : Int) := by omega
        go_wp2_with fail
        go_ret
        exact ⟨t, by omega, rfl, rd3.out.mono (by omega), sb3.out⟩
  · have hk1 : ((k : Int) == 0) = false := by rw [beq_eq_false_iff_ne]; omega
    have hp2 := Lib.hid (pick_any r A n c (P + 1) 9 w1 rd1.out (by omega) (by omega) (by omega))
    go_wp2_with fail
    refine Calls.mono hp2.out ?_
    rintro e w2 ⟨k2, hk2, rfl, rd, sb⟩
    have rd2 := Lib.hid rd
    have sb2 := Lib.hid (sf_trans sb1.out sb)
    have own2 := Lib.hid (own_sf own1.out sb hne)
    clear rd sb
    have hcase : k2 = 0 ∨ k2 = 1 ∨ k2 = 2 ∨ k2 = 3 ∨ k2 = 4 ∨ k2 = 5 ∨ k2 = 6 ∨ k2 = 7 ∨ k2 = 8 := by omega
    rcases hcase with rfl | rfl | rfl | rfl | rfl | rfl | rfl | rfl | rfl
    · have call3 := Lib.hid (of_lit r A n c (P + 1 + 1) [⟨#[120]⟩, ⟨#[121]⟩, ⟨#[120, 49]⟩] 2 w2 rd2.out (by omega) (by simp) (by simp) (by decide) #[.string ⟨#[120]⟩, .string ⟨#[121]⟩, .string ⟨#[120, 49]⟩] rfl 3 9)
      go_wp2_with fail
      refine Calls.mono call3.out ?_
      rintro e w3 ⟨s3, hs3, rfl, rd, sb⟩
      have rd3 := Lib.hid rd
      have sb3 := Lib.hid (sf_trans sb2.out sb)
      have own3 := Lib.hid (own_sf own2.out sb hne)
      clear rd sb
      go_wp2_with fail
      refine Calls.mono (with_any An nn cn _ ns s3 w3 own3.out (by omega)) ?_
      rintro e w4 ⟨An4, cn4, rfl, ownN, hbN⟩
      have ownN4 := Lib.hid ownN
      have rdN := Lib.hid (RD.belowR rd3.out hbN)
      have sb := sf_of_below r hbN
      have own4 := Lib.hid (own_sf own3.out sb hne)
      have sb4 := Lib.hid (sf_trans sb3.out sb)
      have hneN : ∀ k, (Value.slice An4 (nn + 1) cn4).ownBlock = some k → k ≠ r := fun k hk => by have h1 := (ownN4.out.lt k hk).1; have h2 := rd3.out.lt; omega
      have hnsN := names_more hns hs3
      clear ownN hbN sb
      go_wp2_with fail
      refine Calls.mono (hs.out r A n c (P + 1 + 1 + 1) w4 _ An4 (nn + 1) cn4 _ rdN.out (by omega) ownN4.out hneN (by omega) hnsN) ?_
      rintro e w5 ⟨s5, hs5, rfl, rd, sb⟩
      have rd5 := Lib.hid rd
      have sb5 := Lib.hid (sf_trans sb4.out sb)
      have own5 := Lib.hid (own_sf own4.out sb hne)
      clear rd sb
      go_wp2_with fail
      go_ret
      exact ⟨_, by (try simp only [ByteArray.size_append, lit_size, List.length_cons, List.length_nil]); omega, rfl, rd5.out.mono (by omega), sb5.out⟩
    · have call3 := Lib.hid (of_lit r A n c (P + 1 + 1) [⟨#[120]⟩, ⟨#[121]⟩, ⟨#[120, 49]⟩] 2 w2 rd2.out (by omega) (by simp) (by simp) (by decide) #[.string ⟨#[120]⟩, .string ⟨#[121]⟩, .string ⟨#[120, 49]⟩] rfl 3 9)
      go_wp2_with fail
      refine Calls.mono call3.out ?_
      rintro e w3 ⟨s3, hs3, rfl, rd, sb⟩
      have rd3 := Lib.hid rd
      have sb3 := Lib.hid (sf_trans sb2.out sb)
      have own3 := Lib.hid (own_sf own2.out sb hne)
      clear rd sb
      go_wp2_with fail
      refine Calls.mono (with_any An nn cn _ ns s3 w3 own3.out (by omega)) ?_
      rintro e w4 ⟨An4, cn4, rfl, ownN, hbN⟩
      have ownN4 := Lib.hid ownN
      have rdN := Lib.hid (RD.belowR rd3.out hbN)
      have sb := sf_of_below r hbN
      have own4 := Lib.hid (own_sf own3.out sb hne)
      have sb4 := Lib.hid (sf_trans sb3.out sb)
      have hneN : ∀ k, (Value.slice An4 (nn + 1) cn4).ownBlock = some k → k ≠ r := fun k hk => by have h1 := (ownN4.out.lt k hk).1; have h2 := rd3.out.lt; omega
      have hnsN := names_more hns hs3
      clear ownN hbN sb
      go_wp2_with fail
      refine Calls.mono (hs.out r A n c (P + 1 + 1 + 1) w4 _ An4 (nn + 1) cn4 _ rdN.out (by omega) ownN4.out hneN (by omega) hnsN) ?_
      rintro e w5 ⟨s5, hs5, rfl, rd, sb⟩
      have rd5 := Lib.hid rd
      have sb5 := Lib.hid (sf_trans sb4.out sb)
      have own5 := Lib.hid (own_sf own4.out sb hne)
      clear rd sb
      go_wp2_with fail
      go_ret
      exact ⟨_, by (try simp only [ByteArray.size_append, lit_size, List.length_cons, List.length_nil]); omega, rfl, rd5.out.mono (by omega), sb5.out⟩
    · go_wp2_with fail
      refine Calls.mono (hs.out r A n c (P + 1 + 1) w2 _ An nn cn ns rd2.out (by omega) own2.out hne (by omega) hns) ?_
      rintro e w3 ⟨s3, hs3, rfl, rd, sb⟩
      have rd3 := Lib.hid rd
      have sb3 := Lib.hid (sf_trans sb2.out sb)
      have own3 := Lib.hid (own_sf own2.out sb hne)
      clear rd sb
      go_wp2_with fail
      refine Calls.mono (hs.out r A n c (P + 1 + 1 + K) w3 _ An nn cn ns rd3.out (by omega) own3.out hne (by omega) hns) ?_
      rintro e w4 ⟨s4, hs4, rfl, rd, sb⟩
      have rd4 := Lib.hid rd
      have sb4 := Lib.hid (sf_trans sb3.out sb)
      have own4 := Lib.hid (own_sf own3.out sb hne)
      clear rd sb
      go_wp2_with fail
      go_ret
      exact ⟨_, by (try simp only [ByteArray.size_append, lit_size, List.length_cons, List.length_nil]); omega, rfl, rd4.out.mono (by omega), sb4.out⟩
    · have call3 := Lib.hid (of_lit r A n c (P + 1 + 1) [⟨#[120]⟩, ⟨#[121]⟩, ⟨#[120, 49]⟩] 2 w2 rd2.out (by omega) (by simp) (by simp) (by decide) #[.string ⟨#[120]⟩, .string ⟨#[121]⟩, .string ⟨#[120, 49]⟩] rfl 3 9)
      go_wp2_with fail
      refine Calls.mono call3.out ?_
      rintro e w3 ⟨s3, hs3, rfl, rd, sb⟩
      have rd3 := Lib.hid rd
      have sb3 := Lib.hid (sf_trans sb2.out sb)
      have own3 := Lib.hid (own_sf own2.out sb hne)
      clear rd sb
      go_wp2_with fail
      refine Calls.mono (with_any An nn cn _ ns s3 w3 own3.out (by omega)) ?_
      rintro e w4 ⟨An4, cn4, rfl, ownN, hbN⟩
      have ownN4 := Lib.hid ownN
      have rdN := Lib.hid (RD.belowR rd3.out hbN)
      have sb := sf_of_below r hbN
      have own4 := Lib.hid (own_sf own3.out sb hne)
      have sb4 := Lib.hid (sf_trans sb3.out sb)
      have hneN : ∀ k, (Value.slice An4 (nn + 1) cn4).ownBlock = some k → k ≠ r := fun k hk => by have h1 := (ownN4.out.lt k hk).1; have h2 := rd3.out.lt; omega
      have hnsN := names_more hns hs3
      clear ownN hbN sb
      go_wp2_with fail
      refine Calls.mono (hs.out r A n c (P + 1 + 1 + 1) w4 _ An4 (nn + 1) cn4 _ rdN.out (by omega) ownN4.out hneN (by omega) hnsN) ?_
      rintro e w5 ⟨s5, hs5, rfl, rd, sb⟩
      have rd5 := Lib.hid rd
      have sb5 := Lib.hid (sf_trans sb4.out sb)
      have own5 := Lib.hid (own_sf own4.out sb hne)
      clear rd sb
      go_wp2_with fail
      refine Calls.mono (hs.out r A n c (P + 1 + 1 + 1 + K) w5 _ An nn cn ns rd5.out (by omega) own5.out hne (by omega) hns) ?_
      rintro e w6 ⟨s6, hs6, rfl, rd, sb⟩
      have rd6 := Lib.hid rd
      have sb6 := Lib.hid (sf_trans sb5.out sb)
      have own6 := Lib.hid (own_sf own5.out sb hne)
      clear rd sb
      go_wp2_with fail
      go_ret
      exact ⟨_, by (try simp only [ByteArray.size_append, lit_size, List.length_cons, List.length_nil]); omega, rfl, rd6.out.mono (by omega), sb6.out⟩
    · go_wp2_with fail
      refine Calls.mono (hs.out r A n c (P + 1 + 1) w2 _ An nn cn ns rd2.out (by omega) own2.out hne (by omega) hns) ?_
      rintro e w3 ⟨s3, hs3, rfl, rd, sb⟩
      have rd3 := Lib.hid rd
      have sb3 := Lib.hid (sf_trans sb2.out sb)
      have own3 := Lib.hid (own_sf own2.out sb hne)
      clear rd sb
      go_wp2_with fail
      refine Calls.mono (hs.out r A n c (P + 1 + 1 + K) w3 _ An nn cn ns rd3.out (by omega) own3.out hne (by omega) hns) ?_
      rintro e w4 ⟨s4, hs4, rfl, rd, sb⟩
      have rd4 := Lib.hid rd
      have sb4 := Lib.hid (sf_trans sb3.out sb)
      have own4 := Lib.hid (own_sf own3.out sb hne)
      clear rd sb
      go_wp2_with fail
      go_ret
      exact ⟨_, by (try simp only [ByteArray.size_append, lit_size, List.length_cons, List.length_nil]); omega, rfl, rd4.out.mono (by omega), sb4.out⟩
    · have call3 := Lib.hid (of_lit r A n c (P + 1 + 1) [⟨#[108, 101, 102, 116]⟩, ⟨#[114, 105, 103, 104, 116]⟩] 5 w2 rd2.out (by omega) (by simp) (by simp) (by decide) #[.string ⟨#[108, 101, 102, 116]⟩, .string ⟨#[114, 105, 103, 104, 116]⟩] rfl 2 9)
      go_wp2_with fail
      refine Calls.mono call3.out ?_
      rintro e w3 ⟨s3, hs3, rfl, rd, sb⟩
      have rd3 := Lib.hid rd
      have sb3 := Lib.hid (sf_trans sb2.out sb)
      have own3 := Lib.hid (own_sf own2.out sb hne)
      clear rd sb
      go_wp2_with fail
      refine Calls.mono (hs.out r A n c (P + 1 + 1 + 1) w3 _ An nn cn ns rd3.out (by omega) own3.out hne (by omega) hns) ?_
      rintro e w4 ⟨s4, hs4, rfl, rd, sb⟩
      have rd4 := Lib.hid rd
      have sb4 := Lib.hid (sf_trans sb3.out sb)
      have own4 := Lib.hid (own_sf own3.out sb hne)
      clear rd sb
      go_wp2_with fail
      refine Calls.mono (hs.out r A n c (P + 1 + 1 + 1 + K) w4 _ An nn cn ns rd4.out (by omega) own4.out hne (by omega) hns) ?_
      rintro e w5 ⟨s5, hs5, rfl, rd, sb⟩
      have rd5 := Lib.hid rd
      have sb5 := Lib.hid (sf_trans sb4.out sb)
      have own5 := Lib.hid (own_sf own4.out sb hne)
      clear rd sb
      go_wp2_with fail
      go_ret
      exact ⟨_, by (try simp only [ByteArray.size_append, lit_size, List.length_cons, List.length_nil]); omega, rfl, rd5.out.mono (by omega), sb5.out⟩
    · have call3 := Lib.hid (of_lit r A n c (P + 1 + 1) [⟨#[107]⟩, ⟨#[108]⟩, ⟨#[107, 49]⟩] 2 w2 rd2.out (by omega) (by simp) (by simp) (by decide) #[.string ⟨#[107]⟩, .string ⟨#[108]⟩, .string ⟨#[107, 49]⟩] rfl 3 9)
      go_wp2_with fail
      refine Calls.mono call3.out ?_
      rintro e w3 ⟨s3, hs3, rfl, rd, sb⟩
      have rd3 := Lib.hid rd
      have sb3 := Lib.hid (sf_trans sb2.out sb)
      have own3 := Lib.hid (own_sf own2.out sb hne)
      clear rd sb
      go_wp2_with fail
      refine Calls.mono (hs.out r A n c (P + 1 + 1 + 1) w3 _ An nn cn ns rd3.out (by omega) own3.out hne (by omega) hns) ?_
      rintro e w4 ⟨s4, hs4, rfl, rd, sb⟩
      have rd4 := Lib.hid rd
      have sb4 := Lib.hid (sf_trans sb3.out sb)
      have own4 := Lib.hid (own_sf own3.out sb hne)
      clear rd sb
      go_wp2_with fail
      go_ret
      exact ⟨_, by (try simp only [ByteArray.size_append, lit_size, List.length_cons, List.length_nil]); omega, rfl, rd4.out.mono (by omega), sb4.out⟩
    · go_wp2_with fail
      refine Calls.mono (hs.out r A n c (P + 1 + 1) w2 _ An nn cn ns rd2.out (by omega) own2.out hne (by omega) hns) ?_
      rintro e w3 ⟨s3, hs3, rfl, rd, sb⟩
      have rd3 := Lib.hid rd
      have sb3 := Lib.hid (sf_trans sb2.out sb)
      have own3 := Lib.hid (own_sf own2.out sb hne)
      clear rd sb
      go_wp2_with fail
      go_ret
      exact ⟨_, by (try simp only [ByteArray.size_append, lit_size, List.length_cons, List.length_nil]); omega, rfl, rd3.out.mono (by omega), sb3.out⟩
    · have call3 := Lib.hid (of_lit r A n c (P + 1 + 1) [⟨#[107]⟩, ⟨#[108]⟩, ⟨#[107, 49]⟩] 2 w2 rd2.out (by omega) (by simp) (by simp) (by decide) #[.string ⟨#[107]⟩, .string ⟨#[108]⟩, .string ⟨#[107, 49]⟩] rfl 3 9)
      go_wp2_with fail
      refine Calls.mono call3.out ?_
      rintro e w3 ⟨s3, hs3, rfl, rd, sb⟩
      have rd3 := Lib.hid rd
      have sb3 := Lib.hid (sf_trans sb2.out sb)
      have own3 := Lib.hid (own_sf own2.out sb hne)
      clear rd sb
      go_wp2_with fail
      refine Calls.mono (hs.out r A n c (P + 1 + 1 + 1) w3 _ An nn cn ns rd3.out (by omega) own3.out hne (by omega) hns) ?_
      rintro e w4 ⟨s4, hs4, rfl, rd, sb⟩
      have rd4 := Lib.hid rd
      have sb4 := Lib.hid (sf_trans sb3.out sb)
      have own4 := Lib.hid (own_sf own3.out sb hne)
      clear rd sb
      go_wp2_with fail
      go_ret
      exact ⟨_, by (try simp only [ByteArray.size_append, lit_size, List.length_cons, List.length_nil]); omega, rfl, rd4.out.mono (by omega), sb4.out⟩

theorem drawR1 : DSR 1 10 24 := dsr_succ 1 (by omega) (by omega) 3 2 24 (by omega) (by omega) (by omega) dsr_zero
theorem drawR2 : DSR 2 24 68 := dsr_succ 2 (by omega) (by omega) 10 24 68 (by omega) (by omega) (by omega) drawR1
theorem drawR3 : DSR 3 52 156 := dsr_succ 3 (by omega) (by omega) 24 68 156 (by omega) (by omega) (by omega) drawR2
theorem DSR.mono {d : Int} {K K' L L' : Nat} (h : DSR d K L) (hK : K ≤ K') (hL : L ≤ L') : DSR d K' L' := fun r A n c P w base An nn cn ns hr hP ho h1 h2 h3 =>
  Calls.mono (h r A n c P w base An nn cn ns hr (by omega) ho h1 h2 h3) (fun e w' ⟨s, hs, he, rd, sb⟩ => ⟨s, by omega, he, rd.mono (by omega), sb⟩)
theorem drawR (k : Nat) (hk : k < 3) : DSR (1 + (k : Int)) 52 156 := by
  have h : k = 0 ∨ k = 1 ∨ k = 2 := by omega
  rcases h with rfl | rfl | rfl
  · exact drawR1.mono (by omega) (by omega)
  · exact drawR2.mono (by omega) (by omega)
  · exact drawR3

set_option maxRecDepth 100000 in
set_option maxHeartbeats 1000000 in
theorem sources_any (r : Nat) (A : Option Addr) (n c : Nat) (w : World) (h : RD w r A n c 0) :
    Calls Tryz.prog 14 #[.pointer (some ⟨r, 0, none⟩)] w (DRet r A n c 900 192 w) := by
  have hp1 := Lib.hid (pick_any r A n c 0 12 w h (by omega) (by omega) (by omega))
  clear h
  go_enter Tryz.func14, Tryz.ntmps14
  go_wp2_with fail
  refine Calls.mono hp1.out ?_
  rintro e w1 ⟨k, hk, rfl, rd, sb⟩
  have rd1 := Lib.hid rd
  have sb1 := Lib.hid sb
  clear rd sb
  have hcase : k = 0 ∨ k = 1 ∨ k = 2 ∨ 3 ≤ k := by omega
  rcases hcase with rfl | rfl | rfl | h3
  · have call := Lib.hid (of_lit r A n c (0 + 1) [⟨#[]⟩, ⟨#[107]⟩, ⟨#[40, 108, 97, 109, 32, 107, 32, 120, 41]⟩, ⟨#[40, 97, 112, 112, 32, 120, 41]⟩, ⟨#[40, 99, 97, 116, 99, 104, 32, 120, 32, 121, 41]⟩, ⟨#[40, 98, 111, 116, 104, 32, 120, 32, 107, 41]⟩, ⟨#[40, 116, 104, 114, 111, 119, 32, 107, 41]⟩, ⟨#[97]⟩] 11 w1 rd1.out (by omega) (by simp) (by simp) (by decide) #[.string ⟨#[]⟩, .string ⟨#[107]⟩, .string ⟨#[40, 108, 97, 109, 32, 107, 32, 120, 41]⟩, .string ⟨#[40, 97, 112, 112, 32, 120, 41]⟩, .string ⟨#[40, 99, 97, 116, 99, 104, 32, 120, 32, 121, 41]⟩, .string ⟨#[40, 98, 111, 116, 104, 32, 120, 32, 107, 41]⟩, .string ⟨#[40, 116, 104, 114, 111, 119, 32, 107, 41]⟩, .string ⟨#[97]⟩] rfl 8 9)
    go_wp2_with fail
    refine Calls.mono call.out ?_
    rintro e w2 ⟨s1, hs1, rfl, rd, sb⟩
    have rd2 := Lib.hid rd
    have sb2 := Lib.hid (sf_trans sb1.out sb)
    clear rd sb
    go_wp2_with fail
    go_ret
    exact ⟨_, by omega, rfl, rd2.out.mono (by omega), sb2.out⟩
  · have call := Lib.hid (of_lit r A n c (0 + 1) [⟨#[40, 97, 112, 112, 32, 40, 108, 97, 109, 32, 120, 32, 40, 98, 111, 116, 104, 32, 120, 32, 120, 41, 41, 32, 121, 41]⟩, ⟨#[40, 99, 97, 116, 99, 104, 32, 107, 32, 40, 97, 112, 112, 32, 40, 108, 97, 109, 32, 120, 32, 121, 41, 32, 40, 116, 104, 114, 111, 119, 32, 107, 32, 122, 41, 41, 41]⟩, ⟨#[40, 97, 112, 112, 32, 40, 108, 97, 109, 32, 120, 32, 40, 97, 112, 112, 32, 120, 32, 120, 41, 41, 32, 40, 108, 97, 109, 32, 120, 32, 40, 97, 112, 112, 32, 120, 32, 120, 41, 41, 41]⟩, ⟨#[40, 99, 97, 116, 99, 104, 32, 107, 32, 40, 98, 111, 116, 104, 32, 120, 32, 40, 116, 104, 114, 111, 119, 32, 107, 32, 40, 98, 111, 116, 104, 32, 121, 32, 122, 41, 41, 41, 41]⟩, ⟨#[40, 97, 112, 112, 32, 40, 108, 97, 109, 32, 120, 32, 40, 97, 112, 112, 32, 120, 32, 121, 41, 41, 32, 40, 108, 97, 109, 32, 122, 32, 40, 98, 111, 116, 104, 32, 122, 32, 122, 41, 41, 41]⟩, ⟨#[40, 114, 105, 103, 104, 116, 32, 40, 98, 111, 116, 104, 32, 40, 116, 104, 114, 111, 119, 32, 108, 32, 120, 41, 32, 121, 41, 41]⟩, ⟨#[40, 97, 112, 112, 32, 120, 32, 40, 116, 104, 114, 111, 119, 32, 107, 32, 121, 41, 41]⟩, ⟨#[40, 97, 112, 112, 32, 40, 99, 97, 116, 99, 104, 32, 107, 32, 40, 108, 97, 109, 32, 120, 32, 40, 116, 104, 114, 111, 119, 32, 107, 32, 40, 108, 97, 109, 32, 121, 32, 120, 41, 41, 41, 41, 32, 122, 41]⟩, ⟨#[40, 108, 97, 109, 32, 120, 32, 40, 99, 97, 116, 99, 104, 32, 107, 32, 40, 97, 112, 112, 32, 120, 32, 40, 108, 97, 109, 32, 121, 32, 40, 116, 104, 114, 111, 119, 32, 107, 32, 121, 41, 41, 41, 41, 41]⟩] 45 w1 rd1.out (by omega) (by simp) (by simp) (by decide) #[.string ⟨#[40, 97, 112, 112, 32, 40, 108, 97, 109, 32, 120, 32, 40, 98, 111, 116, 104, 32, 120, 32, 120, 41, 41, 32, 121, 41]⟩, .string ⟨#[40, 99, 97, 116, 99, 104, 32, 107, 32, 40, 97, 112, 112, 32, 40, 108, 97, 109, 32, 120, 32, 121, 41, 32, 40, 116, 104, 114, 111, 119, 32, 107, 32, 122, 41, 41, 41]⟩, .string ⟨#[40, 97, 112, 112, 32, 40, 108, 97, 109, 32, 120, 32, 40, 97, 112, 112, 32, 120, 32, 120, 41, 41, 32, 40, 108, 97, 109, 32, 120, 32, 40, 97, 112, 112, 32, 120, 32, 120, 41, 41, 41]⟩, .string ⟨#[40, 99, 97, 116, 99, 104, 32, 107, 32, 40, 98, 111, 116, 104, 32, 120, 32, 40, 116, 104, 114, 111, 119, 32, 107, 32, 40, 98, 111, 116, 104, 32, 121, 32, 122, 41, 41, 41, 41]⟩, .string ⟨#[40, 97, 112, 112, 32, 40, 108, 97, 109, 32, 120, 32, 40, 97, 112, 112, 32, 120, 32, 121, 41, 41, 32, 40, 108, 97, 109, 32, 122, 32, 40, 98, 111, 116, 104, 32, 122, 32, 122, 41, 41, 41]⟩, .string ⟨#[40, 114, 105, 103, 104, 116, 32, 40, 98, 111, 116, 104, 32, 40, 116, 104, 114, 111, 119, 32, 108, 32, 120, 41, 32, 121, 41, 41]⟩, .string ⟨#[40, 97, 112, 112, 32, 120, 32, 40, 116, 104, 114, 111, 119, 32, 107, 32, 121, 41, 41]⟩, .string ⟨#[40, 97, 112, 112, 32, 40, 99, 97, 116, 99, 104, 32, 107, 32, 40, 108, 97, 109, 32, 120, 32, 40, 116, 104, 114, 111, 119, 32, 107, 32, 40, 108, 97, 109, 32, 121, 32, 120, 41, 41, 41, 41, 32, 122, 41]⟩, .string ⟨#[40, 108, 97, 109, 32, 120, 32, 40, 99, 97, 116, 99, 104, 32, 107, 32, 40, 97, 112, 112, 32, 120, 32, 40, 108, 97, 109, 32, 121, 32, 40, 116, 104, 114, 111, 119, 32, 107, 32, 121, 41, 41, 41, 41, 41]⟩] rfl 9 9)
    go_wp2_with fail
    refine Calls.mono call.out ?_
    rintro e w2 ⟨s1, hs1, rfl, rd, sb⟩
    have rd2 := Lib.hid rd
    have sb2 := Lib.hid (sf_trans sb1.out sb)
    clear rd sb
    go_wp2_with fail
    go_ret
    exact ⟨_, by omega, rfl, rd2.out.mono (by omega), sb2.out⟩
  · have call := Lib.hid (of_lit r A n c (0 + 1) [⟨#[40, 97, 112, 112, 32, 40, 108, 97, 109, 32, 120, 32, 40, 98, 111, 116, 104, 32, 120, 32, 120, 41, 41, 32, 121, 41]⟩, ⟨#[40, 99, 97, 116, 99, 104, 32, 107, 32, 40, 97, 112, 112, 32, 40, 108, 97, 109, 32, 120, 32, 121, 41, 32, 40, 116, 104, 114, 111, 119, 32, 107, 32, 122, 41, 41, 41]⟩, ⟨#[40, 97, 112, 112, 32, 40, 108, 97, 109, 32, 120, 32, 40, 97, 112, 112, 32, 120, 32, 120, 41, 41, 32, 40, 108, 97, 109, 32, 120, 32, 40, 97, 112, 112, 32, 120, 32, 120, 41, 41, 41]⟩, ⟨#[40, 99, 97, 116, 99, 104, 32, 107, 32, 40, 98, 111, 116, 104, 32, 120, 32, 40, 116, 104, 114, 111, 119, 32, 107, 32, 40, 98, 111, 116, 104, 32, 121, 32, 122, 41, 41, 41, 41]⟩, ⟨#[40, 97, 112, 112, 32, 40, 108, 97, 109, 32, 120, 32, 40, 97, 112, 112, 32, 120, 32, 121, 41, 41, 32, 40, 108, 97, 109, 32, 122, 32, 40, 98, 111, 116, 104, 32, 122, 32, 122, 41, 41, 41]⟩, ⟨#[40, 114, 105, 103, 104, 116, 32, 40, 98, 111, 116, 104, 32, 40, 116, 104, 114, 111, 119, 32, 108, 32, 120, 41, 32, 121, 41, 41]⟩, ⟨#[40, 97, 112, 112, 32, 120, 32, 40, 116, 104, 114, 111, 119, 32, 107, 32, 121, 41, 41]⟩, ⟨#[40, 97, 112, 112, 32, 40, 99, 97, 116, 99, 104, 32, 107, 32, 40, 108, 97, 109, 32, 120, 32, 40, 116, 104, 114, 111, 119, 32, 107, 32, 40, 108, 97, 109, 32, 121, 32, 120, 41, 41, 41, 41, 32, 122, 41]⟩, ⟨#[40, 108, 97, 109, 32, 120, 32, 40, 99, 97, 116, 99, 104, 32, 107, 32, 40, 97, 112, 112, 32, 120, 32, 40, 108, 97, 109, 32, 121, 32, 40, 116, 104, 114, 111, 119, 32, 107, 32, 121, 41, 41, 41, 41, 41]⟩] 45 w1 rd1.out (by omega) (by simp) (by simp) (by decide) #[.string ⟨#[40, 97, 112, 112, 32, 40, 108, 97, 109, 32, 120, 32, 40, 98, 111, 116, 104, 32, 120, 32, 120, 41, 41, 32, 121, 41]⟩, .string ⟨#[40, 99, 97, 116, 99, 104, 32, 107, 32, 40, 97, 112, 112, 32, 40, 108, 97, 109, 32, 120, 32, 121, 41, 32, 40, 116, 104, 114, 111, 119, 32, 107, 32, 122, 41, 41, 41]⟩, .string ⟨#[40, 97, 112, 112, 32, 40, 108, 97, 109, 32, 120, 32, 40, 97, 112, 112, 32, 120, 32, 120, 41, 41, 32, 40, 108, 97, 109, 32, 120, 32, 40, 97, 112, 112, 32, 120, 32, 120, 41, 41, 41]⟩, .string ⟨#[40, 99, 97, 116, 99, 104, 32, 107, 32, 40, 98, 111, 116, 104, 32, 120, 32, 40, 116, 104, 114, 111, 119, 32, 107, 32, 40, 98, 111, 116, 104, 32, 121, 32, 122, 41, 41, 41, 41]⟩, .string ⟨#[40, 97, 112, 112, 32, 40, 108, 97, 109, 32, 120, 32, 40, 97, 112, 112, 32, 120, 32, 121, 41, 41, 32, 40, 108, 97, 109, 32, 122, 32, 40, 98, 111, 116, 104, 32, 122, 32, 122, 41, 41, 41]⟩, .string ⟨#[40, 114, 105, 103, 104, 116, 32, 40, 98, 111, 116, 104, 32, 40, 116, 104, 114, 111, 119, 32, 108, 32, 120, 41, 32, 121, 41, 41]⟩, .string ⟨#[40, 97, 112, 112, 32, 120, 32, 40, 116, 104, 114, 111, 119, 32, 107, 32, 121, 41, 41]⟩, .string ⟨#[40, 97, 112, 112, 32, 40, 99, 97, 116, 99, 104, 32, 107, 32, 40, 108, 97, 109, 32, 120, 32, 40, 116, 104, 114, 111, 119, 32, 107, 32, 40, 108, 97, 109, 32, 121, 32, 120, 41, 41, 41, 41, 32, 122, 41]⟩, .string ⟨#[40, 108, 97, 109, 32, 120, 32, 40, 99, 97, 116, 99, 104, 32, 107, 32, 40, 97, 112, 112, 32, 120, 32, 40, 108, 97, 109, 32, 121, 32, 40, 116, 104, 114, 111, 119, 32, 107, 32, 121, 41, 41, 41, 41, 41]⟩] rfl 9 9)
    go_wp2_with fail
    refine Calls.mono call.out ?_
    rintro e w2 ⟨s1, hs1, rfl, rd, sb⟩
    have rd2 := Lib.hid rd
    have sb2 := Lib.hid (sf_trans sb1.out sb)
    clear rd sb
    go_wp2_with fail
    go_ret
    exact ⟨_, by omega, rfl, rd2.out.mono (by omega), sb2.out⟩
  · have q0 : ((k : Int) == 0) = false := by rw [beq_eq_false_iff_ne]; omega
    have q1 : ((k : Int) == 1) = false := by rw [beq_eq_false_iff_ne]; omega
    have q2 : ((k : Int) == 2) = false := by rw [beq_eq_false_iff_ne]; omega
    have hp2 := Lib.hid (pick_any r A n c (0 + 1) 3 (w1.alloc (.cells #[] 9)) (rd1.out.alloc _) (by omega) (by omega) (by omega))
    have ownE := Lib.hid (own_empty w1 0 (Nat.zero_le _) 9)
    have hrl := rd1.out.lt
    go_wp2_with fail
    refine Calls.mono hp2.out ?_
    rintro e w2 ⟨k2, hk2, rfl, rd, sb⟩
    have rd2 := Lib.hid rd
    have ow2 := Lib.hid (own_sf ownE.out sb (fun j hj => by simp [Value.ownBlock] at hj; omega))
    have sb2 := Lib.hid (sf_trans (sf_alloc sb1.out _) sb)
    clear rd sb
    have hcall := Lib.hid (drawR k2 hk2 r A n c (0 + 1 + 1) w2 0 (some ⟨w1.heap.size, 0, none⟩) 0 0 [] rd2.out (by omega) ow2.out (fun j hj => by simp [Value.ownBlock] at hj; omega) (by omega) (fun s hs => by cases hs))
    go_wp2_with fail
    refine Calls.mono hcall.out ?_
    rintro e w3 ⟨s1, hs1, rfl, rd, sb⟩
    have rd3 := Lib.hid rd
    have sb3 := Lib.hid (sf_trans sb2.out sb)
    clear rd sb
    go_wp2_with fail
    go_ret
    exact ⟨_, by omega, rfl, rd3.out.mono (by omega), sb3.out⟩

theorem drawSFree_any (A : Option Addr) (n c : Nat) (w : World) (hr : ByteRow w A n) (hc : n ≤ c) : Calls Tryz.prog 5 #[.slice A n c] w (DrawRet w) := by
  have ho := Lib.hid (open_any A n c w hr hc)
  clear hr
  go_enter Tryz.func5, Tryz.ntmps5
  go_wp2_with fail
  refine Calls.mono ho.out ?_
  rintro e w1 ⟨r, A1, n1, c1, rfl, rd, hrw, hb1⟩
  have hp := Lib.hid (sources_any r A1 n1 c1 w1 rd)
  have hb1' := Lib.hid hb1
  clear rd hb1
  go_wp2_with fail
  refine Calls.mono hp.out ?_
  rintro e w2 ⟨s, hs, rfl, -, sb⟩
  have hb2 := Lib.hid (sb.below hb1'.out hrw)
  clear sb
  go_wp2_with fail
  go_ret
  exact ⟨s, hs, rfl, hb2.out⟩

theorem drawSPlain_any (A : Option Addr) (n c : Nat) (w : World) (hr : ByteRow w A n) (hc : n ≤ c) : Calls Tryz.prog 11 #[.slice A n c] w (DrawRet w) := by
  have ho := Lib.hid (open_any A n c w hr hc)
  clear hr
  go_enter Tryz.func11, Tryz.ntmps11
  go_wp2_with fail
  refine Calls.mono ho.out ?_
  rintro e w1 ⟨r, A1, n1, c1, rfl, rd, hrw, hb1⟩
  have hp := Lib.hid (sources_any r A1 n1 c1 w1 rd)
  have hb1' := Lib.hid hb1
  clear rd hb1
  go_wp2_with fail
  refine Calls.mono hp.out ?_
  rintro e w2 ⟨s, hs, rfl, -, sb⟩
  have hb2 := Lib.hid (sb.below hb1'.out hrw)
  clear sb
  go_wp2_with fail
  go_ret
  exact ⟨s, hs, rfl, hb2.out⟩

end Go.Proofs.YtchkmdagbjbcjaaGreatDoor
