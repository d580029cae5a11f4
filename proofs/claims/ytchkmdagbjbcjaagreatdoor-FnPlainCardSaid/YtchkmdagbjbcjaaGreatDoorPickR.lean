/- Reading a code byte by byte: spec.l6Rd. -/
import Derived.Test.YtchkmdagbjbcjaaGreatDoorFrG
import Derived.Laws.BitsAllLaws
namespace Go.Proofs.YtchkmdagbjbcjaaGreatDoor
set_option linter.unusedVariables false
open Go.RowKit

/-- The slice (A, n) reads as bytes. -/
def ByteRow (w : World) (A : Option Addr) (n : Nat) : Prop :=
  0 < n → ∃ b o, A = some ⟨b, o, none⟩ ∧ b < w.heap.size ∧ ∀ i, i < n → ∃ z : Nat, z < 256 ∧ w.cell? ⟨b, o + i, none⟩ = some (.int .u8 z)

/-- Block r holds a reader of n bytes that stands at a place of at most P. -/
structure RD (w : World) (r : Nat) (A : Option Addr) (n c P : Nat) : Prop where
  box : ∃ p : Nat, p ≤ P ∧ w.heap[r]? = some (.cells #[.slice A n c, .int .i64 p] 60 (0, 0))
  row : ByteRow w A n
  ne : 0 < n → ∀ a, A = some a → a.block ≠ r
  len : n ≤ 2000

/-- The world W is w but for block r and what is new. -/
structure SF (w : World) (r : Nat) (W : World) : Prop where
  size : w.heap.size ≤ W.heap.size
  block : ∀ j, j < w.heap.size → j ≠ r → W.heap[j]? = w.heap[j]?
  os : W.os = w.os
  tape : W.tape = w.tape
  output : W.output = w.output
theorem sf_refl (w : World) (r : Nat) : SF w r w := ⟨Nat.le_refl _, fun _ _ _ => rfl, rfl, rfl, rfl⟩
theorem sf_drew {w W : World} {r : Nat} (h : SF w r W) : SF w r W.drew := ⟨h.size, h.block, h.os, h.tape, h.output⟩
theorem sf_alloc {w W : World} {r : Nat} (h : SF w r W) (o : Obj) : SF w r (W.alloc o) :=
  ⟨Nat.le_trans h.size (by simp), fun j hj hr => (Below.heap_alloc W o j (Nat.lt_of_lt_of_le hj h.size)).trans (h.block j hj hr), h.os, h.tape, h.output⟩
theorem sf_set {w W : World} {r : Nat} (h : SF w r W) (o : Nat) (v : Value) : SF w r (W.setCell ⟨r, o, none⟩ v) :=
  ⟨by simpa using h.size, fun j hj hr => (Below.heap_setCell W _ v j hr).trans (h.block j hj hr), h.os, h.tape, h.output⟩
theorem SF.cell {w W : World} {r : Nat} (h : SF w r W) {b o : Nat} (hb : b < w.heap.size) (hr : b ≠ r) : W.cell? ⟨b, o, none⟩ = w.cell? ⟨b, o, none⟩ := World.cell?_of_block (a := ⟨b, o, none⟩) (h.block b hb hr)
theorem sf_trans {w W W' : World} {r : Nat} (h1 : SF w r W) (h2 : SF W r W') : SF w r W' :=
  ⟨Nat.le_trans h1.size h2.size, fun j hj hr => (h2.block j (Nat.lt_of_lt_of_le hj h1.size) hr).trans (h1.block j hj hr), h2.os.trans h1.os, h2.tape.trans h1.tape, h2.output.trans h1.output⟩
theorem SF.below {w0 w W : World} {r : Nat} (h : SF w r W) (h0 : Below w0.heap.size w0 w) (hr : w0.heap.size ≤ r) : Below w0.heap.size w0 W :=
  ⟨h.os.trans h0.os, h.tape.trans h0.tape, h.output.trans h0.output, Nat.le_trans h0.size h.size, fun j hj => (h.block j (Nat.lt_of_lt_of_le hj h0.size) (by omega)).trans (h0.block j hj)⟩

theorem RD.step {w : World} {r : Nat} {A : Option Addr} {n c P p : Nat} (hp : p ≤ P) (hbox : w.heap[r]? = some (.cells #[.slice A n c, .int .i64 p] 60 (0, 0))) (hrow : ByteRow w A n) (hne : 0 < n → ∀ a, A = some a → a.block ≠ r) (hlen : n ≤ 2000) :
    RD (w.setCell ⟨r, 1, none⟩ (.int .i64 ((p : Int) + 1))) r A n c (P + 1) ∧ SF w r (w.setCell ⟨r, 1, none⟩ (.int .i64 ((p : Int) + 1))) := by
  refine ⟨⟨⟨p + 1, by omega, ?_⟩, fun hn => ?_, hne, hlen⟩, sf_set (sf_refl w r) 1 _⟩
  · rw [set_second hbox]; simp
  · obtain ⟨b, o, rfl, hlt, hc⟩ := hrow hn
    refine ⟨b, o, rfl, by simpa using hlt, fun i hi => ?_⟩
    obtain ⟨z, hz, hcz⟩ := hc i hi
    refine ⟨z, hz, (World.cell?_of_block (a := ⟨b, o + i, none⟩) ?_).trans hcz⟩
    exact Below.heap_setCell _ _ _ _ (hne hn ⟨b, o, none⟩ rfl)

theorem xor_i64_nat (a b : Nat) (ha : a < 4611686018427387904) (hb : b < 4611686018427387904) : bits .xor .i64 (a : Int) (b : Int) = ((a ^^^ b : Nat) : Int) := by
  have hx : a ^^^ b < 2 ^ 62 := Nat.xor_lt_two_pow (by omega) (by omega)
  show IntKind.i64.wrap ((BitVec.ofInt 64 (a : Int) ^^^ BitVec.ofInt 64 (b : Int)).toNat : Int) = _
  have h1 : (BitVec.ofInt 64 (a : Int)).toNat = a := by rw [BitVec.ofInt_natCast, BitVec.toNat_ofNat]; exact Nat.mod_eq_of_lt (by omega)
  have h2 : (BitVec.ofInt 64 (b : Int)).toNat = b := by rw [BitVec.ofInt_natCast, BitVec.toNat_ofNat]; exact Nat.mod_eq_of_lt (by omega)
  rw [BitVec.toNat_xor, h1, h2, IntKind.wrap_i64]
  omega
theorem pick_num (z1 z2 p n m : Nat) (h1 : z1 < 256) (h2 : z2 < 256) (hp : p ≤ 1000000) (hm : 1 ≤ m) :
    ∃ k : Nat, k < m ∧ (bits BinOp.xor IntKind.i64 (wrap64 ((z1 : Int) * 131 + (z2 : Int) * 1117 + (p : Int) * 29 + wrap64 (wrap64 ((p : Int) / (n : Int)) * 53))) (wrap64 ((wrap64 ((z1 : Int) * 131 + (z2 : Int) * 1117 + (p : Int) * 29 + wrap64 (wrap64 ((p : Int) / (n : Int)) * 53))).tdiv 64))).tmod (m : Int) = (k : Int) := by
  have hd : p / n ≤ p := Nat.div_le_self _ _
  have ed : (p : Int) / (n : Int) = ((p / n : Nat) : Int) := (Int.natCast_ediv p n).symm
  rw [ed]
  generalize p / n = q at hd
  have e0 : wrap64 (q : Int) = (q : Int) := IntWalk.wrap64_in _ ⟨by omega, by omega⟩
  have e1 : wrap64 ((q : Int) * 53) = ((q * 53 : Nat) : Int) := by
    rw [IntWalk.wrap64_in _ ⟨by omega, by omega⟩]; omega
  have e2 : wrap64 ((z1 : Int) * 131 + (z2 : Int) * 1117 + (p : Int) * 29 + ((q * 53 : Nat) : Int)) = ((z1 * 131 + z2 * 1117 + p * 29 + q * 53 : Nat) : Int) := by
    rw [IntWalk.wrap64_in _ ⟨by omega, by omega⟩]; omega
  rw [e0, e1, e2]
  have hS : z1 * 131 + z2 * 1117 + p * 29 + q * 53 < 4611686018427387904 := by omega
  generalize z1 * 131 + z2 * 1117 + p * 29 + q * 53 = S at hS
  have e3 : wrap64 ((S : Int).tdiv 64) = ((S / 64 : Nat) : Int) := by
    rw [show (S : Int).tdiv 64 = ((S / 64 : Nat) : Int) from (Int.ofNat_tdiv S 64).symm]
    exact IntWalk.wrap64_in _ ⟨by omega, by omega⟩
  rw [e3, xor_i64_nat _ _ hS (by omega)]
  exact ⟨(S ^^^ S / 64) % m, Nat.mod_lt _ (by omega), (Int.ofNat_tmod _ _).symm⟩
theorem RDdrew {w W : World} {r : Nat} (h : SF w r W) : SF w r W.drew := sf_drew h
theorem RD.drew {w : World} {r : Nat} {A : Option Addr} {n c P : Nat} (h : RD w r A n c P) : RD w.drew r A n c P := ⟨h.box, h.row, h.ne, h.len⟩

set_option maxRecDepth 100000 in
theorem pick_any (r : Nat) (A : Option Addr) (n c P : Nat) (m : Nat) (w : World) (h : RD w r A n c P) (hm : 1 ≤ m) (hm2 : m ≤ 1000) (hP : P ≤ 1000000) :
    Calls Tryz.prog 25 #[.pointer (some ⟨r, 0, none⟩), .int .i64 m] w fun e w' => ∃ k : Nat, k < m ∧ e = .returned (.int .i64 k) ∧ RD w' r A n c (P + 1) ∧ SF w r w' := by
  obtain ⟨⟨p, hp, hbox⟩, hrow, hne, hlen⟩ := h
  obtain ⟨z0, r0, r1, f0, f1⟩ := two_cells hbox
  have hfin := Lib.hid (RD.step hp hbox hrow hne hlen)
  by_cases hn : n = 0
  · subst hn
    clear hrow hne hbox
    go_enter Tryz.func25, Tryz.ntmps25
    go_wp2_with fail
    refine bodyPost_ret (v := .int .i64 0) (by simp [results, Tryz.results25, go_sem]) rfl ?_
    exact ⟨0, by omega, rfl, hfin.out.1, hfin.out.2⟩
  · obtain ⟨b, o, rfl, hblt, hc⟩ := hrow (by omega)
    have hbr : b ≠ r := hne (by omega) ⟨b, o, none⟩ rfl
    have m1 : ¬ (m : Int) < 1 := by omega
    have m0 : ¬ (m : Int) = 0 := by omega
    have n0 : ((n : Int) == 0) = false := by rw [beq_eq_false_iff_ne]; omega
    by_cases hpn : p < n
    · obtain ⟨z, hz, hcz⟩ := hc p hpn
      have hcz' : (w.setCell ⟨r, 1, none⟩ (.int .i64 ((p : Int) + 1))).cell? ⟨b, o + p, none⟩ = some (.int .u8 z) := (World.cell?_of_block (a := ⟨b, o + p, none⟩) (Below.heap_setCell _ _ _ _ hbr)).trans hcz
      have hpn' : (p : Int) < (n : Int) := by omega
      clear hrow hne hbox hc
      go_enter Tryz.func25, Tryz.ntmps25
      go_wp2_with fail
      go_ret
      exact ⟨z % m, Nat.mod_lt _ (by omega), ret_int (by omega), hfin.out.1, hfin.out.2⟩
    · obtain ⟨z1, hz1, hcz1⟩ := hc (p % n) (Nat.mod_lt _ (by omega))
      obtain ⟨z2, hz2, hcz2⟩ := hc ((p * 7 + 3) % n) (Nat.mod_lt _ (by omega))
      have hcz1' : (w.setCell ⟨r, 1, none⟩ (.int .i64 ((p : Int) + 1))).cell? ⟨b, o + p % n, none⟩ = some (.int .u8 z1) := (World.cell?_of_block (a := ⟨b, o + p % n, none⟩) (Below.heap_setCell _ _ _ _ hbr)).trans hcz1
      have hcz2' : (w.setCell ⟨r, 1, none⟩ (.int .i64 ((p : Int) + 1))).cell? ⟨b, o + (p * 7 + 3) % n, none⟩ = some (.int .u8 z2) := (World.cell?_of_block (a := ⟨b, o + (p * 7 + 3) % n, none⟩) (Below.heap_setCell _ _ _ _ hbr)).trans hcz2
      have hl1 : p % n < n := Nat.mod_lt _ (by omega)
      have hl2 : (p * 7 + 3) % n < n := Nat.mod_lt _ (by omega)
      have hpn' : ¬ (p : Int) < (n : Int) := by omega
      have n00 : ¬ (n : Int) = 0 := by omega
      clear hrow hne hbox hc
      go_enter Tryz.func25, Tryz.ntmps25
      go_wp2_with fail
      have e1 : (p : Int) % (n : Int) = ((p % n : Nat) : Int) := (Int.natCast_emod p n).symm
      have e2 : ((p : Int) * 7 + 3) % (n : Int) = (((p * 7 + 3) % n : Nat) : Int) := by rw [Int.natCast_emod]; rfl
      generalize hq1 : p % n = q1 at *
      generalize hq2 : (p * 7 + 3) % n = q2 at *
      have hp6 : p ≤ 1000000 := by omega
      clear hcz1 hcz2 hq1 hq2 hP hp
      go_region
      go_wp2_with fail
      go_ret
      obtain ⟨k, hk, e⟩ := pick_num z1 z2 p n m hz1 hz2 hp6 (by omega)
      exact ⟨k, hk, ret_int e, hfin.out.1.drew, RDdrew hfin.out.2⟩

end Go.Proofs.YtchkmdagbjbcjaaGreatDoor
