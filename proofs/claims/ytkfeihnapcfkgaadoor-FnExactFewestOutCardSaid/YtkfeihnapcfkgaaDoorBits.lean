/-
  The bits of a set of numbers: how many, the first one, all but one.
-/
import Derived.Test.YtkfeihnapcfkgaaDoorNearMath
import Derived.Test.YtkfeihnapcfkgaaDoorProg
import Derived.Test.YtkfeihnapcfkgaaDoorShelf
import Derived.Laws.Bits64b
import Derived.Laws.BitsLemmas
import Derived.WalkKit
import Derived.Lib.Hide
import Derived.Outline
import Derived.LoopTactic
import Derived.BigQuiet
import Derived.Deep.QuietTactic
import Derived.Deep.RegionHeld3
namespace Go.Proofs.YtkfeihnapcfkgaaDoor
open Go.RowKit

theorem wrap64 (n : Nat) (h : n < 18446744073709551616) : IntKind.u64.wrap (n : Int) = (n : Int) := by rw [IntKind.wrap_u64]; omega
theorem and64 (a m : Nat) (ha : a < 18446744073709551616) (hm : m < 18446744073709551616) (x : Int) (hx : x = (a : Int)) (y : Int) (hy : y = (m : Int)) : bits .and .u64 x y = ((a &&& m : Nat) : Int) := by subst hx; subst hy; exact bits_and_u64_nat a m ha hm
theorem popM5 : popM 0x55 8 = 6148914691236517205 := by decide
theorem popM3 : popM 0x33 8 = 3689348814741910323 := by decide
theorem popMf : popM 0x0f 8 = 1085102592571150095 := by decide
theorem pop_one (x : Nat) (hx : x < 18446744073709551616) : popS1 (popM 0x55 8) x < 12297829382473034411 ∧ IntKind.u64.wrap (bits BinOp.and IntKind.u64 ((x : Int) / 2) 6148914691236517205 + bits BinOp.and IntKind.u64 (x : Int) 6148914691236517205) = ((popS1 (popM 0x55 8) x : Nat) : Int) := by
  rw [popM5]
  unfold popS1
  have h1 : x / 2 &&& 6148914691236517205 ≤ 6148914691236517205 := Nat.and_le_right
  have h2 : x &&& 6148914691236517205 ≤ 6148914691236517205 := Nat.and_le_right
  refine ⟨by omega, ?_⟩
  rw [and64 (x / 2) 6148914691236517205 (by omega) (by omega) ((x : Int) / 2) (by omega) 6148914691236517205 rfl, and64 x 6148914691236517205 hx (by omega) (x : Int) rfl 6148914691236517205 rfl, ← Int.natCast_add]
  exact wrap64 _ (by omega)
theorem pop_two (x : Nat) (hx : x < 18446744073709551616) : popS2 (popM 0x33 8) x < 7378697629483820647 ∧ IntKind.u64.wrap (bits BinOp.and IntKind.u64 ((x : Int) / 4) 3689348814741910323 + bits BinOp.and IntKind.u64 (x : Int) 3689348814741910323) = ((popS2 (popM 0x33 8) x : Nat) : Int) := by
  rw [popM3]
  unfold popS2
  have h1 : x / 4 &&& 3689348814741910323 ≤ 3689348814741910323 := Nat.and_le_right
  have h2 : x &&& 3689348814741910323 ≤ 3689348814741910323 := Nat.and_le_right
  refine ⟨by omega, ?_⟩
  rw [and64 (x / 4) 3689348814741910323 (by omega) (by omega) ((x : Int) / 4) (by omega) 3689348814741910323 rfl, and64 x 3689348814741910323 hx (by omega) (x : Int) rfl 3689348814741910323 rfl, ← Int.natCast_add]
  exact wrap64 _ (by omega)
theorem pop_three (x : Nat) (hx : x < 7378697629483820647) : bits BinOp.and IntKind.u64 (IntKind.u64.wrap ((x : Int) / 16 + (x : Int))) 1085102592571150095 = ((popS3 (popM 0x0f 8) x : Nat) : Int) := by
  rw [popMf]
  unfold popS3
  rw [show (x : Int) / 16 + (x : Int) = ((x / 16 + x : Nat) : Int) by omega, wrap64 _ (by omega)]
  exact and64 _ 1085102592571150095 (by omega) (by omega) _ rfl 1085102592571150095 rfl
theorem wrapKit (z : Int) : RowKit.wrap64 z = IntKind.i64.wrap z := by rw [IntKind.wrap_i64, RowKit.wrap64]
theorem pop_low (c : Nat) (h : c < 9223372036854775808) : bits BinOp.and IntKind.i64 (IntKind.i64.wrap (c : Int)) 127 = ((c % 128 : Nat) : Int) := by
  have hw : ∀ n : Int, 0 ≤ n → n < 2 ^ 63 → IntKind.i64.wrap n = n := fun n h0 h1 => by rw [IntKind.wrap_i64]; omega
  rw [hw _ (by omega) (by omega)]
  have := bits_mask .i64 63 (by decide) hw 7 (by decide) (c : Int) (by omega) (by omega)
  rw [show ((2 : Int) ^ 7 - 1) = 127 by decide] at this
  rw [this]
  omega

theorem popP_sum2 (x : Nat) (hx : x < 2 ^ 64) (a b c : Nat) (ha : a = popP 8 x + popP 8 x / 256) (hb : b = a + a / 65536) (hc : c = b + b / 4294967296) : popP 8 x < 2 ^ 60 ∧ c < 2 ^ 63 ∧ c % 128 = popA 64 x := by
  subst ha hb hc
  exact popP_sum x hx
set_option maxRecDepth 100000 in
set_option maxHeartbeats 4000000 in
theorem ones_any (x : Nat) (hx : x < 18446744073709551616) (w : World) : Calls Tryd.prog 98 #[.int .u64 (x : Int)] w fun e w' => e = .returned (.int .i64 (popA 64 x)) ∧ w = w' := by
  have h1 := pop_one x hx
  have h2 := pop_two (popS1 (popM 0x55 8) x) (by omega)
  have h3 := pop_three (popS2 (popM 0x33 8) (popS1 (popM 0x55 8) x)) h2.1
  obtain ⟨h4, h5, h6⟩ := popP_sum2 x (by omega) _ _ _ rfl rfl rfl
  have e4 : popS3 (popM 0x0f 8) (popS2 (popM 0x33 8) (popS1 (popM 0x55 8) x)) = popP 8 x := rfl
  rw [e4] at h3
  have h7 : IntKind.u64.wrap ((popP 8 x : Nat) + ((popP 8 x : Nat) : Int) / 256) = ((popP 8 x + popP 8 x / 256 : Nat) : Int) := by
    rw [show ((popP 8 x : Nat) : Int) + ((popP 8 x : Nat) : Int) / 256 = ((popP 8 x + popP 8 x / 256 : Nat) : Int) by omega]
    exact wrap64 _ (by omega)
  generalize popP 8 x + popP 8 x / 256 = a at h5 h6 h7
  have h8 : IntKind.u64.wrap ((a : Nat) + (a : Int) / 65536) = ((a + a / 65536 : Nat) : Int) := by
    rw [show (a : Int) + (a : Int) / 65536 = ((a + a / 65536 : Nat) : Int) by omega]
    exact wrap64 _ (by omega)
  generalize a + a / 65536 = b at h5 h6 h8
  have h9 : IntKind.u64.wrap ((b : Nat) + (b : Int) / 4294967296) = ((b + b / 4294967296 : Nat) : Int) := by
    rw [show (b : Int) + (b : Int) / 4294967296 = ((b + b / 4294967296 : Nat) : Int) by omega]
    exact wrap64 _ (by omega)
  have h10 := pop_low (b + b / 4294967296) (by omega)
  rw [h6] at h10
  have h10b : bits BinOp.and IntKind.i64 (RowKit.wrap64 ((b + b / 4294967296 : Nat) : Int)) 127 = ((popA 64 x : Nat) : Int) := by
    rw [← h10, wrapKit]
  have h1b := h1.2
  have h2b := h2.2
  generalize b + b / 4294967296 = c at h9 h10 h10b
  clear h1 h2 h4 h5 h6 e4
  generalize popP 8 x = p8 at h3 h7
  generalize popS2 (popM 51 8) (popS1 (popM 85 8) x) = s2 at h2b h3
  generalize popS1 (popM 85 8) x = s1 at h1b h2b
  go_enter Tryd.func98, Tryd.ntmps98
  go_wp2
  go_ret
  exact ⟨rfl, rfl⟩
theorem andNot_u64 (x j : Nat) (hx : x < 18446744073709551616) (hj : j < 64) : bits BinOp.andNot IntKind.u64 (x : Int) (IntKind.u64.wrap (2 ^ j)) = ((x &&& (2 ^ 64 - 1 - 2 ^ j) : Nat) : Int) := by
  have h2 : 2 ^ j < 2 ^ 64 := Nat.pow_lt_pow_right (by decide) hj
  have hw : IntKind.u64.wrap (2 ^ j) = ((2 ^ j : Nat) : Int) := by
    have := wrap64 (2 ^ j) (by omega)
    rw [← this]; congr 1
  rw [hw]
  have h1 : (BitVec.ofInt 64 (x : Int)).toNat = x := by
    rw [BitVec.ofInt_natCast, BitVec.toNat_ofNat]; exact Nat.mod_eq_of_lt (by omega)
  have h3 : (BitVec.ofInt 64 ((2 ^ j : Nat) : Int)).toNat = 2 ^ j := by
    rw [BitVec.ofInt_natCast, BitVec.toNat_ofNat]; exact Nat.mod_eq_of_lt (by omega)
  show IntKind.u64.wrap ((BitVec.ofInt 64 (x : Int) &&& ~~~(BitVec.ofInt 64 ((2 ^ j : Nat) : Int))).toNat : Int) = _
  rw [BitVec.toNat_and, BitVec.toNat_not, h1, h3]
  have : x &&& (2 ^ 64 - 1 - 2 ^ j) ≤ x := Nat.and_le_left
  exact wrap64 _ (by omega)
theorem shl_u64 (j : Nat) (hj : j < 64) : IntKind.u64.wrap (2 ^ j) = ((2 ^ j : Nat) : Int) := by
  have h2 : 2 ^ j < 2 ^ 64 := Nat.pow_lt_pow_right (by decide) hj
  have := wrap64 (2 ^ j) (by omega)
  rw [← this]; congr 1

/-- The library's table for the first bit, as the card's variable lays it. -/
def BitTab (w : World) : Prop := TabAt (Tryd.lays7_29_ren.g 1) Lib.deBruijn64tab w
end Go.Proofs.YtkfeihnapcfkgaaDoor
