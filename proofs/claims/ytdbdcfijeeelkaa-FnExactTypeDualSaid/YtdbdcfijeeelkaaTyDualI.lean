/- impl.TypeDual. -/
import Derived.Test.YtdbdcfijeeelkaaTyHelp
import Derived.Test.YtdbdcfijeeelkaaNameF
import Derived.Test.YtdbdcfijeeelkaaDual
import Derived.Deep.RegionLaw
import Derived.Deep.Cut
import Derived.Deep.CutRange
import Derived.Deep.CutBlock
namespace Go.Proofs.Ytdbdcfijeeelkaa
set_option linter.unusedVariables false
open Go.RowKit

set_option maxRecDepth 100000 in
set_option maxHeartbeats 4000000 in
theorem implTypeDual_any (A : Option Addr) (n c : Nat) (ss : List ByteArray) (B : Option Addr) (m d : Nat) (ts : List ByteArray) (s : ByteArray) (w : World)
    (hA : RowS w A n ss) (hB : RowS w B m ts) (hn : n ≤ 10000000) (hm : m ≤ 10000000) :
    Calls Try.prog 8 #[tyV A n c B m d s] w (TyRet2 (dN (readTy ss ts s)) (dT (readTy ss ts s)) (dW (readTy ss ts s)) (readTy ss ts s).isSome w) := by
  obtain ⟨i0, hi0, hz0, hz1, hz2⟩ := info_parts infoStr
  have hlA := Lib.hid hA.1
  have hA' := Lib.hid (fun W (hW : Below w.heap.size w W) => hA.below hW)
  have hB' := Lib.hid (fun W (hW : Below w.heap.size w W) => hB.below hW)
  have hrt := Lib.hid (fun W (hW : Below w.heap.size w W) => readTyping_any A n c ss B m d ts s W (hA.below hW) (hB.below hW) hn hm)
  have hinv := Lib.hid (fun y (h : readTy ss ts s = some y) => readTy_inv h)
  generalize readTy ss ts s = o at *
  clear hA hB
  go_enter Try.func8, Try.ntmps8
  go_upto_region 1 with fail
  have q0 := first_alloc w (.cells #[.slice A n c, .slice B m d, .string s] 26) (.cells #[.slice none 0 0, .slice none 0 0, .string ⟨#[]⟩] 26)
  have q1 := second_alloc w (.cells #[.slice A n c, .slice B m d, .string s] 26) (.cells #[.slice none 0 0, .slice none 0 0, .string ⟨#[]⟩] 26)
  have hb0 : Below w.heap.size w ((w.alloc (.cells #[.slice A n c, .slice B m d, .string s] 26)).alloc (.cells #[.slice none 0 0, .slice none 0 0, .string ⟨#[]⟩] 26)) := bb_alloc (bb_alloc (Below.refl _ _) _) _
  have hz : ((w.alloc (.cells #[.slice A n c, .slice B m d, .string s] 26)).alloc (.cells #[.slice none 0 0, .slice none 0 0, .string ⟨#[]⟩] 26)).heap.size = w.heap.size + 2 := by simp
  generalize ((w.alloc (.cells #[.slice A n c, .slice B m d, .string s] 26)).alloc (.cells #[.slice none 0 0, .slice none 0 0, .string ⟨#[]⟩] 26)) = w0 at *
  have hb0' := Lib.hid hb0
  obtain ⟨z0, a0, a1, a2, -, -, -⟩ := three_cells q0
  clear hb0
  go_cut [4, 5] from 9 to 13 (fun p b wx => b = .bool o.isSome ∧ ∃ (w1 : World) (A2 : Option Addr) (n2 c2 : Nat) (B2 : Option Addr) (m2 d2 : Nat) (wh : Option F), p = .pointer (some ⟨w1.heap.size, 0, none⟩) ∧ wx = w1.alloc (.cells #[.slice A2 n2 c2, .slice B2 m2 d2, fvO wh] 45) ∧
      Below w0.heap.size w0 w1 ∧ ∀ y, o = some y → TyIn w1 w0.heap.size y A2 n2 c2 B2 m2 d2 ∧ y.wh = wh)
  case first =>
    go_wp2_with fail
    refine Calls.mono (hrt.out w0 hb0'.out) ?_
    rintro e w1 ⟨hb1, A2, n2, c2, B2, m2, d2, wh, rfl, hty⟩
    have hb1' := Lib.hid hb1
    have hty' := Lib.hid hty
    clear hb1 hty
    cases wh with
    | none =>
      rw [show fvO none = .nilIface from rfl]
      go_wp2_with fail
      go_meet
      exact ⟨rfl, w1, A2, n2, c2, B2, m2, d2, none, rfl, rfl, hb1'.out, hty'.out⟩
    | some f =>
      rw [show fvO (some f) = .iface (ft f) (fi f) from rfl]
      go_wp2_with fail
      go_meet
      exact ⟨rfl, w1, A2, n2, c2, B2, m2, d2, some f, rfl, rfl, hb1'.out, hty'.out⟩
  case rest =>
    obtain ⟨rfl, w1, A2, n2, c2, B2, m2, d2, wh, rfl, rfl, hb1, hty⟩ := hcut
    have p1 := Lib.hid ((hb1.block (w.heap.size + 1) (by omega)).trans q1)
    have hbw1 := Lib.hid (below_step hb0'.out (Nat.le_refl _) hb1)
    have hs1 := hb1.size
    have hty' := Lib.hid hty
    obtain ⟨z1, b0, b1, b2, f0, f1, f2⟩ := three_cells p1.out
    clear q0 q1 hb1 hty hrt a0 a1 a2
    have hal := fun (W : World) (o : Obj) (k : Nat) (h : w.heap.size + 1 < W.heap.size) => World.cell?_alloc_lt W o ⟨w.heap.size + 1, k, none⟩ h
    cases o with
    | none =>
      rw [show (none : Option Ty).isSome = false from rfl]
      go_wp2_with fail
      refine bodyPost_ret (v := .tuple #[.agg #[.slice none 0 0, .slice none 0 0, .string ⟨#[]⟩], .bool false]) (by simp [results, Try.results8, go_sem, b0, b1, b2, hal, z1]) rfl ?_
      have hbel := hbw1.out
      exact ⟨none, 0, none, 0, rfl, ⟨World.ownsRow_nil _ _ _ _, World.ownsRow_nil _ _ _ _, fun k hk => by simp [Value.ownBlock] at hk, fun k hk => by simp [Value.ownBlock] at hk, fun k hk => by simp [Value.ownBlock] at hk⟩, (by repeat (with_reducible first | exact hbel | exact Below.refl _ _ | refine Below.drew ?_ | refine Below.drewN ?_ _ | refine Below.alloc ?_ (by first | (simp; done) | (simp; omega) | omega | (have := Below.size hbel; simp; omega) | (have := Below.size hbel; omega)) _ | refine Below.setCell ?_ (by first | (simp; done) | (simp; omega) | omega) _))⟩
    | some y =>
      rw [show (some y : Option Ty).isSome = true from rfl]
      obtain ⟨⟨hN, hT⟩, hwh⟩ := hty'.out y rfl
      subst hwh
      obtain ⟨hl1, hl2, hl3, hl4⟩ := hinv.out y rfl
      have hlenA := Lib.hid (show y.ns.length = n2 from hN.1.symm)
      have hlenB := Lib.hid (show y.fs.length = m2 from hT.1.symm)
      have hnames := Lib.hid (readNs_ok hl2)
      have hforms := Lib.hid (readFs_ok hl3)
      have hnm := Lib.hid (show n2 = m2 by
        have := readNs_length hl2
        have := readFs_length hl3
        have := hlenA.out
        have := hlenB.out
        omega)
      have hn2 : n2 ≤ 10000000 := by have := readNs_length hl2; have := hlA.out; have := hlenA.out; omega
      have hwok := Lib.hid (fun f (h : y.wh = some f) => readWh_ok hl4 h)
      clear hty' hinv hl1 hl2 hl3 hl4
      go_wp2_with fail
      have q2 : ((w1.alloc (.cells #[.slice A2 n2 c2, .slice B2 m2 d2, fvO y.wh] 45)).alloc (.cells #[.slice none 0 0, .slice none 0 0, .string ⟨#[]⟩] 26)).heap[w1.heap.size]? = some (.cells #[.slice A2 n2 c2, .slice B2 m2 d2, fvO y.wh] 45 (0, 0)) := first_alloc w1 (.cells #[.slice A2 n2 c2, .slice B2 m2 d2, fvO y.wh] 45) (.cells #[.slice none 0 0, .slice none 0 0, .string ⟨#[]⟩] 26)
      have q3 : ((w1.alloc (.cells #[.slice A2 n2 c2, .slice B2 m2 d2, fvO y.wh] 45)).alloc (.cells #[.slice none 0 0, .slice none 0 0, .string ⟨#[]⟩] 26)).heap[w1.heap.size + 1]? = some (.cells #[.slice none 0 0, .slice none 0 0, .string ⟨#[]⟩] 26 (0, 0)) := second_alloc w1 (.cells #[.slice A2 n2 c2, .slice B2 m2 d2, fvO y.wh] 45) (.cells #[.slice none 0 0, .slice none 0 0, .string ⟨#[]⟩] 26)
      have hb12 : Below w1.heap.size w1 ((w1.alloc (.cells #[.slice A2 n2 c2, .slice B2 m2 d2, fvO y.wh] 45)).alloc (.cells #[.slice none 0 0, .slice none 0 0, .string ⟨#[]⟩] 26)) := bb_alloc (bb_alloc (Below.refl _ _) _) _
      have hzw2 : ((w1.alloc (.cells #[.slice A2 n2 c2, .slice B2 m2 d2, fvO y.wh] 45)).alloc (.cells #[.slice none 0 0, .slice none 0 0, .string ⟨#[]⟩] 26)).heap.size = w1.heap.size + 2 := by simp
      generalize ((w1.alloc (.cells #[.slice A2 n2 c2, .slice B2 m2 d2, fvO y.wh] 45)).alloc (.cells #[.slice none 0 0, .slice none 0 0, .string ⟨#[]⟩] 26)) = w2 at *
      have p1b := Lib.hid ((hb12.block (w.heap.size + 1) z1).trans p1.out)
      have hN2 := Lib.hid (hN.below hb12)
      have hNb := Lib.hid hN
      have hT2 := Lib.hid (hT.below hb12)
      have hTb := Lib.hid hT
      have hbw2 := Lib.hid (below_step hbw1.out (Nat.le_refl _) hb12)
      clear hb12 b0 b1 b2 f0 f1 f2 hN hT hal
      go_loopw [20] (fun i wr => ∃ (j : Nat) (A1 : Option Addr) (c1 : Nat) (B1 : Option Addr) (d1 : Nat), j ≤ n2 ∧ i = .int .i64 j ∧
          wr.ownsRow (w1.heap.size + 2) 9 1 (.slice A1 j c1) j (((y.ns.take j).map (fun s => (⟨(swapB s).toArray⟩ : ByteArray))).map Value.string) ∧
          wr.ownsRow (w1.heap.size + 2) 9 1 (.slice B1 j d1) j (((y.fs.take j).map (fun f => (⟨f.dual.text.toArray⟩ : ByteArray))).map Value.string) ∧
          (∀ k, (Value.slice A1 j c1).ownBlock = some k → (Value.slice B1 j d1).ownBlock ≠ some k) ∧
          wr.heap[w1.heap.size + 1]? = some (.cells #[.slice A1 j c1, .slice B1 j d1, .string ⟨#[]⟩] 26 (0, 0)) ∧ SB w2 (w1.heap.size + 1) wr ∧ Below w.heap.size w wr)
        (fun i _ => n2 - (intOf i).toNat)
      case atStart => exact ⟨0, none, 0, none, 0, Nat.zero_le _, rfl, World.ownsRow_nil _ _ _ _, World.ownsRow_nil _ _ _ _, fun k hk => by simp [Value.ownBlock] at hk, q3, sb_refl _ _, hbw2.out⟩
      case round =>
        obtain ⟨j, A1, c1, B1, d1, hj, rfl, own1, own2, hap, h3, hsb, hbel⟩ := hrel
        have h2 := (hsb.block w1.heap.size (by omega) (by omega)).trans q2
        have h1 := (hsb.block (w.heap.size + 1) (by omega) (by omega)).trans p1b.out
        obtain ⟨z2, d0, d1', d2', -, -, -⟩ := three_cells h2
        obtain ⟨z3, e0, e1, e2, g0, g1, g2⟩ := three_cells h3
        have hss := hsb.size
        have own1' := Lib.hid own1
        have own2' := Lib.hid own2
        have hap' := Lib.hid hap
        have h1' := Lib.hid h1
        have h2' := Lib.hid h2
        have h3' := Lib.hid h3
        have hsb' := Lib.hid hsb
        have hbel' := Lib.hid hbel
        clear own1 own2 hap h1 h2 h3 hsb hbel
        by_cases hlt : j < n2
        · obtain ⟨bn, on, hAe, hbn, hcn⟩ := hNb.out.2 (by omega)
          have hcn2 := (hN2.out.2 (by omega))
          subst hAe
          have l1 : j < y.ns.length := by have := hlenA.out; omega
          have hsn : y.ns[j]? = some y.ns[j] := List.getElem?_eq_getElem l1
          have hok := hnames.out _ (List.getElem_mem l1)
          obtain ⟨bn', on', hAe', hbn', hcn'⟩ := hcn2
          injection hAe' with hAe'
          injection hAe' with hAe1 hAe2
          subst hAe1
          subst hAe2
          obtain ⟨x0, x1⟩ := hcn' j _ hsn
          have x0 := (World.cell?_of_block (a := ⟨bn, on + j * 2, none⟩) (hsb'.out.block bn (by omega) (by omega))).trans x0
          have x1 := (World.cell?_of_block (a := ⟨bn, on + j * 2 + 1, none⟩) (hsb'.out.block bn (by omega) (by omega))).trans x1
          have hbnw : bn < wr.heap.size := by omega
          have hdn := Lib.hid (dN_at hsn)
          obtain ⟨bf, of', hBe, hbf, hcf⟩ := hTb.out.2 (by have := hnm.out; omega)
          subst hBe
          have l2 : j < y.fs.length := by have := hlenB.out; have := hnm.out; omega
          have hfn : y.fs[j]? = some y.fs[j] := List.getElem?_eq_getElem l2
          obtain ⟨hfok, hf60⟩ := hforms.out _ (List.getElem_mem l2)
          obtain ⟨bf', of2, hBe', hbf', hcf'⟩ := hT2.out.2 (by have := hnm.out; omega)
          injection hBe' with hBe'
          injection hBe' with hBe1 hBe2
          subst hBe1
          subst hBe2
          have xfw := Lib.hid (fun W (hs : SB w2 (w1.heap.size + 1) W) => (World.cell?_of_block (a := ⟨bf, of' + j, none⟩) (hs.block bf (by omega) (by omega))).trans (hcf' j _ hfn))
          have hdt := Lib.hid (dT_at hfn)
          have hbfw : bf < w2.heap.size := by omega
          clear hcn hcn' hcf hcf'
          generalize y.ns[j] = nj at *
          generalize y.fs[j] = f at *
          obtain ⟨cn, dn, rfl⟩ : ∃ c0 d0, nj = c0 :: d0 := by cases nj with
            | nil => cases hok
            | cons c d => exact ⟨c, d, rfl⟩
          rw [show hdI (cn :: dn) = cn.toNat from rfl] at x0
          rw [show (cn :: dn).tail = dn from rfl] at x1
          have hv := var_or hok
          have hd3 : dn.length ≤ 3 := isName_len hok
          have hcS := Lib.hid (fun W => swapped_any cn dn hv W)
          have hcT := Lib.hid (fun W => nameText_any (swapC cn) dn (swapC_or hv) (by omega) W)
          have hm1 := Lib.hid (fun w => dual_method f w)
          have hx1 := Lib.hid (fun x w => dual_call f x w)
          have hm2 := Lib.hid (fun w => text_method f.dual w)
          have hx2 := Lib.hid (fun x w => text_call f.dual x w)
          have hdu := Lib.hid (dual_of f)
          have htx := Lib.hid (text_of f.dual (F.dual_ok hfok) (by have := f.dual_size; omega))
          have hk7 := Lib.hid (heap_alloc_new wr (.cells #[.int .u8 cn.toNat, .string ⟨dn.toArray⟩] 49))
          have hOw1 := Lib.hid (fun W (hW : Below wr.heap.size wr W) => own_below own1'.out hW)
          have hS : Hid (∀ W', Below (wr.alloc (.cells #[.int .u8 cn.toNat, .string ⟨dn.toArray⟩] 49)).heap.size (wr.alloc (.cells #[.int .u8 cn.toNat, .string ⟨dn.toArray⟩] 49)) W' → W'.cell? ⟨w1.heap.size + 1, 0, none⟩ = some (.slice A1 j c1) ∧ W'.cell? ⟨wr.heap.size, 0, none⟩ = some (.int .u8 cn.toNat) ∧ W'.cell? ⟨wr.heap.size, 1, none⟩ = some (.string ⟨dn.toArray⟩)) := Lib.hid fun W' hW' => by
            obtain ⟨-, y0, y1, -, -⟩ := two_cells ((hW'.block wr.heap.size (by simp)).trans hk7.out)
            obtain ⟨-, y2, -, -, y3, -, -⟩ := three_cells ((hW'.block (w1.heap.size + 1) (by simp; omega)).trans ((Below.heap_alloc wr _ _ z3).trans h3'.out))
            exact ⟨y2, y0, y1⟩
          have hB9 : Hid (∀ W W', Below (wr.alloc (.cells #[.int .u8 cn.toNat, .string ⟨dn.toArray⟩] 49)).heap.size (wr.alloc (.cells #[.int .u8 cn.toNat, .string ⟨dn.toArray⟩] 49)) W → W.grownBy W' (Value.slice A1 j c1).ownBlock → W'.heap[w1.heap.size + 1]? = some (.cells #[.slice A1 j c1, .slice B1 j d1, .string ⟨#[]⟩] 26 (0, 0))) := Lib.hid fun W W' hW hg => by
            have hw := hW.size
            simp at hw
            exact (hg.block _ (by omega) (fun e => by have := own1'.out.lt _ e.symm; omega)).trans ((hW.block (w1.heap.size + 1) (by simp; omega)).trans ((Below.heap_alloc wr _ _ z3).trans h3'.out))
          clear hv hok hfok hf60
          have hn1 : (j : Int) < (m2 : Int) := by have := hnm.out; omega
          have hn0 : (0 : Int) ≤ (j : Int) := by omega
          go_upto_block 1 with fail
          go_cut [20] from 20 to 45 (fun i wx => i = .int .i64 j ∧ ∃ (gA capA g cap : Nat),
              wx.ownsRow (w1.heap.size + 2) 9 1 (.slice (some ⟨gA, 0, none⟩) (j + 1) capA) (j + 1) (((y.ns.take (j + 1)).map (fun s => (⟨(swapB s).toArray⟩ : ByteArray))).map Value.string) ∧
              wx.ownsRow (w1.heap.size + 2) 9 1 (.slice (some ⟨g, 0, none⟩) (j + 1) cap) (j + 1) (((y.fs.take (j + 1)).map (fun f => (⟨f.dual.text.toArray⟩ : ByteArray))).map Value.string) ∧
              (∀ k, (Value.slice (some ⟨gA, 0, none⟩) (j + 1) capA).ownBlock = some k → (Value.slice (some ⟨g, 0, none⟩) (j + 1) cap).ownBlock ≠ some k) ∧
              wx.heap[w1.heap.size + 1]? = some (.cells #[.slice (some ⟨gA, 0, none⟩) (j + 1) capA, .slice (some ⟨g, 0, none⟩) (j + 1) cap, .string ⟨#[]⟩] 26 (0, 0)) ∧ SB w2 (w1.heap.size + 1) wx ∧ Below w.heap.size w wx)
          case rest =>
            obtain ⟨rfl, gA, capA, gB, capB, o3, o4, hap3, hcell3, hsb3, hbel3⟩ := hcut
            go_wp2_with fail
            go_roundw
            case rel => exact ⟨j + 1, some ⟨gA, 0, none⟩, capA, some ⟨gB, 0, none⟩, capB, by omega, by go_num, o3, o4, hap3, hcell3, hsb3, hbel3⟩
            case measure => simp [intOf]; omega
          case first =>
            go_wp2_with fail
            go_cut [20] from 20 to 45 (fun i wx => i = .int .i64 j ∧ ∃ (g cap : Nat), wx.ownsRow (w1.heap.size + 2) 9 1 (.slice (some ⟨g, 0, none⟩) (j + 1) cap) (j + 1) (((y.ns.take (j + 1)).map (fun s => (⟨(swapB s).toArray⟩ : ByteArray))).map Value.string) ∧
                wx.ownsRow (w1.heap.size + 2) 9 1 (.slice B1 j d1) j (((y.fs.take j).map (fun f => (⟨f.dual.text.toArray⟩ : ByteArray))).map Value.string) ∧
                (∀ k, (Value.slice (some ⟨g, 0, none⟩) (j + 1) cap).ownBlock = some k → (Value.slice B1 j d1).ownBlock ≠ some k) ∧
                wx.heap[w1.heap.size + 1]? = some (.cells #[.slice (some ⟨g, 0, none⟩) (j + 1) cap, .slice B1 j d1, .string ⟨#[]⟩] 26 (0, 0)) ∧ SB w2 (w1.heap.size + 1) wx ∧ Below w.heap.size w wx ∧ wr.heap.size ≤ wx.heap.size)
            case first =>
              rename_i hmeet
              clear hnames hforms hwok hN2 hNb hT2 hTb xfw hdt hm1 hx1 hm2 hx2 hdu htx hk7 h1' h2' h3' q2 q3 p1 p1b hbw1 hbw2 hA' hB' hlA hlenA hlenB hnm d0 d1' d2' e1 e2 g1 g2 x0 x1 hfn hsn l1 l2 hn1 hn0 hd3
              go_region_law (first
                | (go_simp; go_at_call 22; refine Calls.mono (hcS.out _) ?_; rintro e w3 ⟨rfl, hb1⟩; obtain ⟨k1, k2, k3⟩ := hS.out w3 (by repeat (with_reducible first | exact Below.refl _ _ | exact hbb | refine Below.drew ?_ | refine bb_alloc ?_ _ | refine below_step ?_ (Nat.le_refl _) hb1 | refine below_step ?_ (Nat.le_refl _) hb2 | refine below_step ?_ (Nat.le_refl _) hb3 | refine below_step ?_ (Nat.le_refl _) hb4)))
                | (go_simp; go_at_call 23; refine Calls.mono (hcT.out _) ?_; rintro e w4 ⟨rfl, hb2⟩; obtain ⟨k5, k6, k7⟩ := hS.out w4 (by repeat (with_reducible first | exact Below.refl _ _ | exact hbb | refine Below.drew ?_ | refine bb_alloc ?_ _ | refine below_step ?_ (Nat.le_refl _) hb1 | refine below_step ?_ (Nat.le_refl _) hb2 | refine below_step ?_ (Nat.le_refl _) hb3 | refine below_step ?_ (Nat.le_refl _) hb4)); obtain ⟨k11, -, -⟩ := hS.out (w4.alloc (.cells #[str (swapC cn :: dn)] 9)) (by repeat (with_reducible first | exact Below.refl _ _ | exact hbb | refine Below.drew ?_ | refine bb_alloc ?_ _ | refine below_step ?_ (Nat.le_refl _) hb1 | refine below_step ?_ (Nat.le_refl _) hb2 | refine below_step ?_ (Nat.le_refl _) hb3 | refine below_step ?_ (Nat.le_refl _) hb4)))
                | (refine step_append_lies _ (by rfl) _ _ _ (by rfl) (w1.heap.size + 2) 9 i0 _ 1 16 Try.underlying22 hi0 hz0 hz1 hz2 rfl (by decide) (.slice A1 j c1) j _ (by rfl) (hOw1.out _ (by repeat (with_reducible first | exact Below.refl _ _ | exact hbb | refine Below.drew ?_ | refine bb_alloc ?_ _ | refine below_step ?_ (Nat.le_refl _) hb1 | refine below_step ?_ (Nat.le_refl _) hb2 | refine below_step ?_ (Nat.le_refl _) hb3 | refine below_step ?_ (Nat.le_refl _) hb4))) ⟨w4.heap.size, 0, none⟩ 1 1 [str (swapC cn :: dn)] (by rfl) rfl (World.news_of_block (cs := #[str (swapC cn :: dn)]) (heap_alloc_new w4 _)) (by intro u hu; simp at hu; rw [hu]; rfl) (by decide) (by unfold maxLen; omega) (by omega) (Nat.le_trans (show w1.heap.size + 2 ≤ wr.heap.size by omega) (Below.size (B := wr.heap.size) (by repeat (with_reducible first | exact Below.refl _ _ | exact hbb | refine Below.drew ?_ | refine bb_alloc ?_ _ | refine below_step ?_ (Nat.le_refl _) hb1 | refine below_step ?_ (Nat.le_refl _) hb2 | refine below_step ?_ (Nat.le_refl _) hb3 | refine below_step ?_ (Nat.le_refl _) hb4)))) (w4.heap.size + 1) (by simp) ?_; intro g cap w5 own5 gr5 hat5 hlt5; obtain ⟨-, k9, -, -, k10, -, -⟩ := three_cells (hB9.out _ _ (by repeat (with_reducible first | exact Below.refl _ _ | exact hbb | refine Below.drew ?_ | refine bb_alloc ?_ _ | refine below_step ?_ (Nat.le_refl _) hb1 | refine below_step ?_ (Nat.le_refl _) hb2 | refine below_step ?_ (Nat.le_refl _) hb3 | refine below_step ?_ (Nat.le_refl _) hb4)) gr5)))
              all_goals go_wp2_with fail
              all_goals go_meet
              all_goals
                have T4 : Below wr.heap.size wr (w4.alloc (.cells #[str (swapC cn :: dn)] 9)) := (by repeat (with_reducible first | exact Below.refl _ _ | exact hbb | refine Below.drew ?_ | refine bb_alloc ?_ _ | refine below_step ?_ (Nat.le_refl _) hb1 | refine below_step ?_ (Nat.le_refl _) hb2 | refine below_step ?_ (Nat.le_refl _) hb3 | refine below_step ?_ (Nat.le_refl _) hb4))
                have hcA := hB9.out _ _ (by repeat (with_reducible first | exact Below.refl _ _ | exact hbb | refine Below.drew ?_ | refine bb_alloc ?_ _ | refine below_step ?_ (Nat.le_refl _) hb1 | refine below_step ?_ (Nat.le_refl _) hb2 | refine below_step ?_ (Nat.le_refl _) hb3 | refine below_step ?_ (Nat.le_refl _) hb4)) gr5
                obtain ⟨f1, f2⟩ := app_facts own1'.out own2'.out hap'.out T4 gr5 (g := g) (n := j + 1) (cap := cap) (by rcases hat5 with h | h; exact .inl h; exact .inr (by have := T4.size; simp at this; omega))
                refine ⟨rfl, g, cap, ?_, own_same f1 (fun k hk => Below.heap_setCell _ _ _ _ (by have := (f1.lt k hk).1; simp only; omega)), f2, set_first3 hcA, sb_set (sb_grown (sb_step hsb'.out T4) gr5 (fun k hk => by have := (own1'.out.lt k hk).1; omega)) _ _, ?_, ?_⟩
                · rw [hdn.out, List.map_append]
                  exact own_same own5 (fun k hk => Below.heap_setCell _ _ _ _ (by have := (own5.lt k hk).1; simp only; omega))
                · have hbel := (below_step hbel'.out (Nat.le_refl _) T4).grown gr5 (by have := T4.size; have := hbel'.out.size; omega) (fun k hk => by have := (own1'.out.lt k hk).1; omega)
                  exact (by repeat (with_reducible first | exact hbel | exact Below.refl _ _ | refine Below.drew ?_ | refine Below.drewN ?_ _ | refine Below.alloc ?_ (by first | (simp; done) | (simp; omega) | omega | (have := Below.size hbel; simp; omega) | (have := Below.size hbel; omega)) _ | refine Below.setCell ?_ (by first | (simp; done) | (simp; omega) | omega) _))
                · have := T4.size; have := gr5.size; simp; omega
            case rest =>
              obtain ⟨rfl, gA, capA, o1, o2, hap2, hcell, hsb2, hbel2, hsz⟩ := hcut
              clear hS hB9 hcS hcT hk7 x0 x1 hdn hOw1 own1' own2' hap' h3' hsb' hbel' h1' h2'
              have hr2 := (hsb2.block w1.heap.size (by omega) (by omega)).trans q2
              obtain ⟨y2, v0, v1, v2, -, -, -⟩ := three_cells hr2
              obtain ⟨y3, u0, u1', u2', u3', u4', u5'⟩ := three_cells hcell
              have xf := xfw.out wc hsb2
              have hbfc : bf < wc.heap.size := by omega
              rw [show fv f = .iface (ft f) (fi f) from rfl] at xf
              have o1' := Lib.hid o1
              have o2' := Lib.hid o2
              have hap2' := Lib.hid hap2
              have hcell' := Lib.hid hcell
              have hsb2' := Lib.hid hsb2
              have hbel2' := Lib.hid hbel2
              have hr2' := Lib.hid hr2
              have xf' := Lib.hid xf
              have hOw2 := Lib.hid (fun W (hW : Below wc.heap.size wc W) => own_below o2'.out hW)
              have hS : Hid (∀ W', Below wc.heap.size wc W' → W'.cell? ⟨w1.heap.size + 1, 1, none⟩ = some (.slice B1 j d1) ∧ W'.cell? ⟨w1.heap.size, 1, none⟩ = some (.slice (some ⟨bf, of', none⟩) m2 d2) ∧ W'.cell? ⟨bf, of' + j, none⟩ = some (.iface (ft f) (fi f))) := Lib.hid fun W' hW' => by
                obtain ⟨-, -, t1, -, -, t2, -⟩ := three_cells ((hW'.block (w1.heap.size + 1) (by omega)).trans hcell'.out)
                obtain ⟨-, -, t3, -, -, -, -⟩ := three_cells ((hW'.block w1.heap.size (by omega)).trans hr2'.out)
                exact ⟨t1, t3, (hW'.cell (p := ⟨bf, of' + j, none⟩) hbfc).trans xf'.out⟩
              have hB9 : Hid (∀ W W', Below wc.heap.size wc W → W.grownBy W' (Value.slice B1 j d1).ownBlock → W'.heap[w1.heap.size + 1]? = some (.cells #[.slice (some ⟨gA, 0, none⟩) (j + 1) capA, .slice B1 j d1, .string ⟨#[]⟩] 26 (0, 0))) := Lib.hid fun W W' hW hg => by
                have hw := hW.size
                exact (hg.block _ (by omega) (fun e => by have := o2'.out.lt _ e.symm; omega)).trans ((hW.block (w1.heap.size + 1) (by omega)).trans hcell'.out)
              clear o1 o2 hap2 hcell hsb2 hbel2 hr2
              go_wp2_with fail
              rename_i hmeet
              have hm1 := hm1.out
              have hx1 := hx1.out
              have hm2 := hm2.out
              have hx2 := hx2.out
              clear hnames hforms hwok hN2 hNb hT2 hTb xfw xf' hcell' hr2' q2 q3 p1 p1b hbw1 hbw2 hA' hB' hlA hlenA hlenB hnm d0 d1' d2' e0 e1 e2 g0 g1 g2 v0 v2 u0 u2' u3' u4' u5' hfn hsn l1 l2 hd3
              go_region_law (first
                | (go_simp; refine Calls.mono (hdu.out _) ?_; rintro e w3 ⟨rfl, hb1⟩; obtain ⟨k1, k2, k3⟩ := hS.out w3 (by repeat (with_reducible first | exact Below.refl _ _ | exact hbb | refine Below.drew ?_ | refine bb_alloc ?_ _ | refine below_step ?_ (Nat.le_refl _) hb1 | refine below_step ?_ (Nat.le_refl _) hb2 | refine below_step ?_ (Nat.le_refl _) hb3 | refine below_step ?_ (Nat.le_refl _) hb4)))
                | (go_simp; refine Calls.mono (htx.out _) ?_; rintro e w4 ⟨rfl, hb2⟩; obtain ⟨k5, k6, k7⟩ := hS.out w4 (by repeat (with_reducible first | exact Below.refl _ _ | exact hbb | refine Below.drew ?_ | refine bb_alloc ?_ _ | refine below_step ?_ (Nat.le_refl _) hb1 | refine below_step ?_ (Nat.le_refl _) hb2 | refine below_step ?_ (Nat.le_refl _) hb3 | refine below_step ?_ (Nat.le_refl _) hb4)); obtain ⟨k11, -, -⟩ := hS.out (w4.alloc (.cells #[.string ⟨f.dual.text.toArray⟩] 9)) (by repeat (with_reducible first | exact Below.refl _ _ | exact hbb | refine Below.drew ?_ | refine bb_alloc ?_ _ | refine below_step ?_ (Nat.le_refl _) hb1 | refine below_step ?_ (Nat.le_refl _) hb2 | refine below_step ?_ (Nat.le_refl _) hb3 | refine below_step ?_ (Nat.le_refl _) hb4)))
                | (refine step_append_lies _ (by rfl) _ _ _ (by rfl) (w1.heap.size + 2) 9 i0 _ 1 16 Try.underlying22 hi0 hz0 hz1 hz2 rfl (by decide) (.slice B1 j d1) j _ (by rfl) (hOw2.out _ (by repeat (with_reducible first | exact Below.refl _ _ | exact hbb | refine Below.drew ?_ | refine bb_alloc ?_ _ | refine below_step ?_ (Nat.le_refl _) hb1 | refine below_step ?_ (Nat.le_refl _) hb2 | refine below_step ?_ (Nat.le_refl _) hb3 | refine below_step ?_ (Nat.le_refl _) hb4))) ⟨w4.heap.size, 0, none⟩ 1 1 [.string ⟨f.dual.text.toArray⟩] (by rfl) rfl (World.news_of_block (cs := #[.string ⟨f.dual.text.toArray⟩]) (heap_alloc_new w4 _)) (by intro u hu; simp at hu; rw [hu]; rfl) (by decide) (by unfold maxLen; omega) (by omega) (Nat.le_trans (show w1.heap.size + 2 ≤ wc.heap.size by omega) (Below.size (B := wc.heap.size) (by repeat (with_reducible first | exact Below.refl _ _ | exact hbb | refine Below.drew ?_ | refine bb_alloc ?_ _ | refine below_step ?_ (Nat.le_refl _) hb1 | refine below_step ?_ (Nat.le_refl _) hb2 | refine below_step ?_ (Nat.le_refl _) hb3 | refine below_step ?_ (Nat.le_refl _) hb4)))) (w4.heap.size + 1) (by simp) ?_; intro g cap w5 own5 gr5 hat5 hlt5; obtain ⟨-, -, k9, -, -, k10, -⟩ := three_cells (hB9.out _ _ (by repeat (with_reducible first | exact Below.refl _ _ | exact hbb | refine Below.drew ?_ | refine bb_alloc ?_ _ | refine below_step ?_ (Nat.le_refl _) hb1 | refine below_step ?_ (Nat.le_refl _) hb2 | refine below_step ?_ (Nat.le_refl _) hb3 | refine below_step ?_ (Nat.le_refl _) hb4)) gr5)))
              all_goals go_wp2_with fail
              all_goals go_meet
              all_goals
                have T4 : Below wc.heap.size wc (w4.alloc (.cells #[.string ⟨f.dual.text.toArray⟩] 9)) := (by repeat (with_reducible first | exact Below.refl _ _ | exact hbb | refine Below.drew ?_ | refine bb_alloc ?_ _ | refine below_step ?_ (Nat.le_refl _) hb1 | refine below_step ?_ (Nat.le_refl _) hb2 | refine below_step ?_ (Nat.le_refl _) hb3 | refine below_step ?_ (Nat.le_refl _) hb4))
                have hcA := hB9.out _ _ (by repeat (with_reducible first | exact Below.refl _ _ | exact hbb | refine Below.drew ?_ | refine bb_alloc ?_ _ | refine below_step ?_ (Nat.le_refl _) hb1 | refine below_step ?_ (Nat.le_refl _) hb2 | refine below_step ?_ (Nat.le_refl _) hb3 | refine below_step ?_ (Nat.le_refl _) hb4)) gr5
                obtain ⟨f1, f2⟩ := app_facts o2'.out o1'.out (fun b hb e => hap2'.out b e hb) T4 gr5 (g := g) (n := j + 1) (cap := cap) (by rcases hat5 with h | h; exact .inl h; exact .inr (by have := T4.size; simp at this; omega))
                refine ⟨rfl, gA, capA, g, cap, own_same f1 (fun k hk => Below.heap_setCell _ _ _ _ (by have := (f1.lt k hk).1; simp only; omega)), ?_, (fun b hb e => f2 b e hb), set_second3 hcA, sb_set (sb_grown (sb_step hsb2'.out T4) gr5 (fun k hk => by have := (o2'.out.lt k hk).1; omega)) _ _, ?_⟩
                · rw [hdt.out, List.map_append]
                  exact own_same own5 (fun k hk => Below.heap_setCell _ _ _ _ (by have := (own5.lt k hk).1; simp only; omega))
                · have hbel := (below_step hbel2'.out (Nat.le_refl _) T4).grown gr5 (by have := T4.size; have := hbel2'.out.size; omega) (fun k hk => by have := (o2'.out.lt k hk).1; omega)
                  exact (by repeat (with_reducible first | exact hbel | exact Below.refl _ _ | refine Below.drew ?_ | refine Below.drewN ?_ _ | refine Below.alloc ?_ (by first | (simp; done) | (simp; omega) | omega | (have := Below.size hbel; simp; omega) | (have := Below.size hbel; omega)) _ | refine Below.setCell ?_ (by first | (simp; done) | (simp; omega) | omega) _))
        · obtain rfl : j = n2 := by omega
          rw [List.take_of_length_le (by have := hlenA.out; omega)] at own1'
          rw [List.take_of_length_le (by have := hlenB.out; have := hnm.out; omega)] at own2'
          have hty0 : Hid (TyO wr (w1.heap.size + 2) wr.heap.size A1 j c1 B1 j d1 (dN (some y)) (dT (some y))) := ⟨own1'.out, own2'.out, hap'.out, fun k hk => (own1'.out.lt k hk).2, fun k hk => (own2'.out.lt k hk).2⟩
          have hfin : Hid (∀ W t, dW (some y) = t → Turn w.heap.size (w1.heap.size + 2) wr W → TyRet2 (dN (some y)) (dT (some y)) (dW (some y)) true w (.returned (.tuple #[tyV A1 j c1 B1 j d1 t, .bool true])) W) := Lib.hid fun W t ht hT => by
            have e1 : (dN (some y)).length = j := by simp [dN, Ty.dnames, hlenA.out]
            have e2 : (dT (some y)).length = j := by simp [dT, Ty.dtypes, hlenB.out, hnm.out]
            refine ⟨A1, c1, B1, d1, by rw [e1, e2, ht], ?_, hT.belows hbel'.out (Nat.le_refl _)⟩
            rw [e1, e2]
            exact ((hty0.out.turn hT (.inr (Nat.le_refl _))).lower (by omega)).upper hT.size
          obtain ⟨-, b0, b1, b2, f0, f1, f2⟩ := three_cells h1'.out
          cases hwh : y.wh with
          | none =>
            rw [hwh, show fvO none = .nilIface from rfl] at d2'
            have hw0 := Lib.hid (show dW (some y) = ⟨#[]⟩ by simp [dW, Ty.dwhole, hwh])
            clear q2 q3 hnames hforms hwok hty0
            go_wp2_with fail
            refine bodyPost_ret (v := .tuple #[tyV A1 j c1 B1 j d1 ⟨#[]⟩, .bool true]) (by simp [results, Try.results8, go_sem, b0, b1, b2]) rfl ?_
            exact hfin.out _ _ hw0.out (((((Turn.refl _ _ _).set _ _ _ (by omega)).set _ _ _ (by omega)).set _ _ _ (by omega)))
          | some f =>
            rw [hwh, show fvO (some f) = .iface (ft f) (fi f) from rfl] at d2'
            obtain ⟨hfok, hf60⟩ := hwok.out f hwh
            have hw0 := Lib.hid (show dW (some y) = ⟨f.dual.text.toArray⟩ by simp [dW, Ty.dwhole, hwh])
            have hm1 := fun w => dual_method f w
            have hx1 := fun x w => dual_call f x w
            have hm2 := fun w => text_method f.dual w
            have hx2 := fun x w => text_call f.dual x w
            have hdu := Lib.hid (dual_of f)
            have htx := Lib.hid (text_of f.dual (F.dual_ok hfok) (by have := f.dual_size; omega))
            clear q2 q3 hnames hforms hwok hty0 hfok hf60
            go_wp2_with fail
            refine Calls.mono (hdu.out _) ?_
            rintro e w3 ⟨rfl, hb1⟩
            have hb1' := Lib.hid hb1
            clear hb1
            go_wp2_with fail
            refine Calls.mono (htx.out _) ?_
            rintro e w4 ⟨rfl, hb2⟩
            have hb4 := below_step hb1'.out (Nat.le_refl _) hb2
            obtain ⟨x1, x2, x3, x4, x5, x6, x7⟩ := three_cells ((hb4.block (w1.heap.size + 1) z3).trans h3'.out)
            obtain ⟨t1, t2, t3, t4, t5, t6, t7⟩ := three_cells ((hb4.block (w.heap.size + 1) (by omega)).trans h1'.out)
            have hT4 := Lib.hid (Turn.ofBelow (lo := w.heap.size) (hi := w1.heap.size + 2) hb4)
            clear hb2 hb4 hb1' b0 b1 b2 f0 f1 f2 d0 d1' d2' e0 e1 e2 g0 g1 g2
            go_wp2_with fail
            refine bodyPost_ret (v := .tuple #[tyV A1 j c1 B1 j d1 ⟨f.dual.text.toArray⟩, .bool true]) (by simp [results, Try.results8, go_sem, t2, t3, t4]) rfl ?_
            exact hfin.out _ _ hw0.out ((((hT4.out.set _ _ _ (by omega)).set _ _ _ (by omega)).set _ _ _ (by omega)).set _ _ _ (by omega))

end Go.Proofs.Ytdbdcfijeeelkaa
