/-
  Sets of guests as bits: the program's first, has, members.
-/
import Derived.Test.YtkfeihnapcfkgaaDoorBits
import Derived.Test.YtkfeihnapcfkgaaDoorRoomsK
namespace Go.Proofs.YtkfeihnapcfkgaaDoor
open Go.RowKit

theorem BitTab.below {w w' : World} (h : BitTab w) (hb : Below w.heap.size w w') : BitTab w' := fun j hj => (hb.cell (World.block_lt_of_cell? w _ (h j hj))).trans (h j hj)
theorem bit_split {x d : Nat} (hd : x.testBit d = true) (hl : ∀ i, i < d → x.testBit i = false) : x = 2 ^ (d + 1) * (x / 2 ^ (d + 1)) + 2 ^ d := by
  have h : x % 2 ^ (d + 1) = 2 ^ d := by
    apply Nat.eq_of_testBit_eq
    intro i
    rw [Nat.testBit_mod_two_pow, Nat.testBit_two_pow]
    rcases Nat.lt_trichotomy i d with h | h | h
    · rw [hl i h]; simp; omega
    · subst h; rw [hd]; simp
    · have : ¬ i < d + 1 := by omega
      have : ¬ d = i := by omega
      simp [*]
  have := Nat.div_add_mod x (2 ^ (d + 1))
  rw [h] at this
  exact this.symm
/-- Taking one off a set and keeping what is common leaves the set without its first one. -/
theorem and_pred {x d : Nat} (hd : x.testBit d = true) (hl : ∀ i, i < d → x.testBit i = false) (i : Nat) : (x &&& (x - 1)).testBit i = (x.testBit i && !decide (i = d)) := by
  have hx := bit_split hd hl
  have hp : 0 < 2 ^ d := Nat.two_pow_pos d
  have hy : x - 1 = 2 ^ (d + 1) * (x / 2 ^ (d + 1)) + (2 ^ d - 1) := by omega
  have h2 : 2 ^ d < 2 ^ (d + 1) := Nat.pow_lt_pow_right (by decide) (by omega)
  rw [Nat.testBit_and, hy]
  by_cases h : i < d + 1
  · have e1 : (2 ^ (d + 1) * (x / 2 ^ (d + 1)) + (2 ^ d - 1)).testBit i = (2 ^ d - 1).testBit i := by
      rw [Nat.testBit_two_pow_mul_add _ (by omega), if_pos h]
    rw [e1, Nat.testBit_two_pow_sub_one]
    by_cases e : i = d
    · subst e; simp
    · rw [hl i (by omega)]; simp
  · have e1 : (2 ^ (d + 1) * (x / 2 ^ (d + 1)) + (2 ^ d - 1)).testBit i = x.testBit i := by
      rw [Nat.testBit_two_pow_mul_add _ (by omega), if_neg h]
      conv => rhs; rw [hx, Nat.testBit_two_pow_mul_add _ (by omega), if_neg h]
    rw [e1]
    have : ¬ i = d := by omega
    simp [this]
def fromG (p : Nat → Bool) (j i : Nat) : Bool := p i && decide (j ≤ i)
theorem fromG_zero (p : Nat → Bool) (n : Nat) : setN p n = setN (fromG p 0) n := setN_congr fun i _ => by simp [fromG]
theorem fromG_step {p : Nat → Bool} {n j : Nat} (hn : n ≤ 40) (hx : setN (fromG p j) n ≠ 0) :
    Lib.ctz 64 (setN (fromG p j) n) < n ∧ j ≤ Lib.ctz 64 (setN (fromG p j) n) ∧ filtN p (Lib.ctz 64 (setN (fromG p j) n) + 1) = filtN p j ++ [((Lib.ctz 64 (setN (fromG p j) n) : Nat) : Int)] ∧ setN (fromG p j) n &&& (setN (fromG p j) n - 1) = setN (fromG p (Lib.ctz 64 (setN (fromG p j) n) + 1)) n := by
  obtain ⟨h1, h2, h3⟩ := ctz_first hn hx
  have hlt := setN_lt64 (fromG p j) hn
  obtain ⟨b1, _, b3⟩ := ctz_bit hx (by omega)
  have hap := and_pred b1 b3
  generalize Lib.ctz 64 (setN (fromG p j) n) = c at h1 h2 h3 b1 b3 hap
  have hp : p c = true ∧ j ≤ c := by simpa [fromG] using h2
  refine ⟨h1, hp.2, ?_, ?_⟩
  · rw [filtN_yes hp.1, filtN_skip hp.2 fun i h4 h5 => ?_]
    have := h3 i h5
    simp [fromG, h4] at this
    exact this
  · apply Nat.eq_of_testBit_eq
    intro i
    rw [hap, setN_bit, setN_bit]
    by_cases hi : i < n
    · rcases Nat.lt_trichotomy i c with h | h | h
      · rw [h3 i h]
        have : ¬ c + 1 ≤ i := by omega
        simp [fromG, this]
      · subst h
        have : ¬ i + 1 ≤ i := by omega
        simp [fromG]
      · have a1 : j ≤ i := by omega
        have a2 : c + 1 ≤ i := by omega
        have a3 : ¬ i = c := by omega
        simp [fromG, a1, a2, a3, hi]
    · simp [hi]
theorem fromG_end {p : Nat → Bool} {n j : Nat} (hj : j ≤ n) (hx : setN (fromG p j) n = 0) : filtN p n = filtN p j :=
  filtN_skip hj fun i h1 h2 => by
    have := setN_zero.1 hx i h2
    simpa [fromG, h1] using this
set_option maxRecDepth 100000 in
theorem firstG_any (x : Nat) (hx : x < 18446744073709551616) (w : World) (hT : BitTab w) : Calls Tryd.prog 82 #[.int .u64 (x : Int)] w fun e w' => e = .returned (.int .i64 (Lib.ctz 64 x)) ∧ w = w' := by
  go_enter Tryd.func82, Tryd.ntmps82
  go_wp2_with fail
  refine (Any7.bits_TrailingZeros64 Tryd.lays7_29 x hx _ fun _ => hT).mono ?_
  rintro e w' ⟨rfl, rfl⟩
  go_wp2
  go_ret
  exact ⟨rfl, rfl⟩
theorem andPred (x : Nat) (h0 : x ≠ 0) (hx : x < 18446744073709551616) : bits BinOp.and IntKind.u64 (x : Int) (IntKind.u64.wrap ((x : Int) - 1)) = ((x &&& (x - 1) : Nat) : Int) := by
  rw [show (x : Int) - 1 = ((x - 1 : Nat) : Int) by omega, wrap64 _ (by omega)]
  exact bits_and_u64_nat _ _ hx (by omega)

set_option maxRecDepth 100000 in
set_option maxHeartbeats 8000000 in
theorem members_any (p : Nat → Bool) (n : Nat) (w : World) (hn : n ≤ 40) (hT : BitTab w) :
    Calls Tryd.prog 46 #[.int .u64 ((setN p n : Nat) : Int)] w fun e w' => Below w.heap.size w w' ∧ ∃ ao cap, e = .returned (.slice ao (filtN p n).length cap) ∧ w'.ownsRow w.heap.size 2 1 (.slice ao (filtN p n).length cap) (filtN p n).length ((filtN p n).map (Value.int .i64)) := by
  have HT : Hid (∀ W, Below w.heap.size w W → BitTab W) := fun W hB => hT.below hB
  have HI : Hid (∃ i0 : TypeInfo, Tryd.prog.info? 2 = some i0 ∧ i0.zero = some (.int .i64 0) ∧ i0.size = 1 ∧ i0.bytes = 8) := info_parts info2
  clear hT
  have HZ := Lib.hid (fromG_zero p n)
  rw [HZ.out]
  go_enter Tryd.func46, Tryd.ntmps46
  go_wp2_with fail
  go_loopw [0, 3] (fun sv vo wr => ∃ (j c cap : Nat) (ao : Option Addr) (l : List Int), j ≤ n ∧ c ≤ j ∧ vo = .slice ao c cap ∧ sv = .int .u64 ((setN (fromG p j) n : Nat) : Int) ∧ Hid (Below w.heap.size w wr) ∧ Hid (l = filtN p j) ∧ Hid (l.length = c) ∧ Hid (wr.ownsRow w.heap.size 2 1 (.slice ao c cap) c (l.map (Value.int .i64)))) (fun sv _ _ => (intOf sv).toNat)
  case atStart => exact ⟨0, 0, 0, none, [], by omega, by omega, rfl, rfl, Below.refl _ _, rfl, rfl, World.ownsRow_nil _ _ _ _⟩
  case round =>
    obtain ⟨j, c, cap, ao, l, hj, hcj, rfl, rfl, HBEL, HL, HLEN, HOWN⟩ := hrel
    have hx40 := setN_lt64 (fromG p j) hn
    by_cases hx : setN (fromG p j) n = 0
    · have HE := Lib.hid (fromG_end hj hx)
      rw [hx]
      have HLE : Hid (l = filtN p n) := by unfold Hid; rw [HE.out, HL.out]
      clear hx hx40 HL HE
      go_wp2
      go_ret
      have e1 := HLE.out
      have e2 := HLEN.out
      subst e1
      rw [← e2] at HOWN ⊢
      exact ⟨HBEL.out, ao, cap, rfl, HOWN.out⟩
    · obtain ⟨h1, h2, h3, h4⟩ := fromG_step hn hx
      have HFI := fun W hTW => firstG_any (setN (fromG p j) n) (by omega) W hTW
      have HW := andPred _ hx (by omega)
      have hne : (((setN (fromG p j) n : Nat) : Int) != 0) = true := by simp; omega
      have hle : setN (fromG p j) n &&& (setN (fromG p j) n - 1) < setN (fromG p j) n := by
        have : setN (fromG p j) n &&& (setN (fromG p j) n - 1) ≤ setN (fromG p j) n - 1 := Nat.and_le_right
        omega
      rw [h4] at hle HW
      generalize Lib.ctz 64 (setN (fromG p j) n) = d at h1 h2 h3 h4 HFI hle HW
      have HFI := Lib.hid HFI
      have HN := Lib.hid h3
      have HLT : Hid (setN (fromG p (d + 1)) n < setN (fromG p j) n) := hle
      generalize setN (fromG p j) n = x at hne HW HFI hx40 HLT
      generalize hy : setN (fromG p (d + 1)) n = y at HW HLT
      have HY := Lib.hid hy
      have hws : w.heap.size ≤ wr.heap.size := HBEL.out.size
      have HGE : Hid (∀ q, (Value.slice ao c cap).ownBlock = some q → w.heap.size ≤ q) := fun q hq => (HOWN.out.lt q hq).1
      clear h3 h4 hle hy hx
      go_wp2_with (first | (go_at_call 82; refine (HFI.out _ (HT.out _ (by first | exact HBEL.out | (apply Hid.out; assumption)))).mono ?_; rintro e w6 ⟨rfl, rfl⟩) | (at_builtin; refine wpList_append_lies _ rfl _ _ 24 rfl w.heap.size 2 HI.out.choose (.int .i64 0) 1 8 Tryd.underlying24 HI.out.choose_spec.1 HI.out.choose_spec.2.1 HI.out.choose_spec.2.2.1 HI.out.choose_spec.2.2.2 rfl (by decide) (.slice ao c cap) c (l.map (Value.int .i64)) rfl (HOWN.out.alloc _) ⟨wr.heap.size, 0, none⟩ 1 1 [.int .i64 (d : Int)] rfl rfl (news_oneG _ _ _) (by intro u hu; simp at hu; subst hu; rfl) (by omega) (by unfold maxLen; omega) (by omega) (by simp; omega) (wr.heap.size + 1) (by simp) ?_))
      intro g' cap' w3 hown1 hgrow hat hlt2
      have B5 : Hid (Below w.heap.size w w3) := (HBEL.out.alloc hws _).grown hgrow (by simp; omega) HGE.out
      have O1 : Hid (w3.ownsRow w.heap.size 2 1 (.slice (some ⟨g', 0, none⟩) (c + 1) cap') (c + 1) ((l ++ [(d : Int)]).map (Value.int .i64))) := by
        unfold Hid; rw [List.map_append]; exact hown1
      clear hown1 hgrow hat hlt2
      go_wp2
      go_roundw
      case rel => exact ⟨d + 1, c + 1, cap', _, l ++ [(d : Int)], by omega, by omega, rfl, by rw [HY.out], B5.out, by unfold Hid; rw [HN.out, ← HL.out], by unfold Hid; rw [List.length_append, HLEN.out]; rfl, O1.out⟩
      case measure => have := HLT.out; simp [intOf]; omega
end Go.Proofs.YtkfeihnapcfkgaaDoor
