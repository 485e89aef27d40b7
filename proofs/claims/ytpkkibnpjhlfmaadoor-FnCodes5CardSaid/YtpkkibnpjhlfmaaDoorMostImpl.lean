/-
  MostAddresses: the program's bound and its search.
-/
import Derived.Test.YtpkkibnpjhlfmaaDoorMostBnd
import Derived.Test.YtpkkibnpjhlfmaaDoorBits
import Derived.Test.YtpkkibnpjhlfmaaDoorGreedy
import Derived.Test.YtpkkibnpjhlfmaaDoorSrc
import Derived.Deep.RegionHeld3
namespace Go.Proofs.YtpkkibnpjhlfmaaDoor
open Go.RowKit

theorem dif_u64 (x f : Nat) (hx : x < 18446744073709551616) (hf : f < 18446744073709551616) : bits BinOp.andNot IntKind.u64 (x : Int) (f : Int) = ((dif x f : Nat) : Int) := by
  have h1 : (BitVec.ofInt 64 (x : Int)).toNat = x := by
    rw [BitVec.ofInt_natCast, BitVec.toNat_ofNat]; exact Nat.mod_eq_of_lt (by omega)
  have h3 : (BitVec.ofInt 64 (f : Int)).toNat = f := by
    rw [BitVec.ofInt_natCast, BitVec.toNat_ofNat]; exact Nat.mod_eq_of_lt (by omega)
  show IntKind.u64.wrap ((BitVec.ofInt 64 (x : Int) &&& ~~~(BitVec.ofInt 64 (f : Int))).toNat : Int) = _
  rw [BitVec.toNat_and, BitVec.toNat_not, h1, h3]
  have : x &&& (2 ^ 64 - 1 - f) ≤ x := Nat.and_le_left
  unfold dif
  exact wrap64 _ (by omega)
theorem and_u64 (x f : Nat) (hx : x < 18446744073709551616) (hf : f < 18446744073709551616) : bits BinOp.and IntKind.u64 (x : Int) (f : Int) = ((x &&& f : Nat) : Int) := bits_and_u64_nat x f hx hf

/-- The search's memory: a block with the far words and the greatest number so far. -/
def Srch (F : Nat → Nat) (N fb fc gb : Nat) (m : Nat) (w : World) : Prop :=
  w.heap[gb]? = some (.cells #[.slice (some ⟨fb, 0, none⟩) N fc, .int .i64 (m : Int)] 91 (0, 0)) ∧ ∀ i, i < N → w.cell? ⟨fb, i, none⟩ = some (.int .u64 ((F i : Nat) : Int))
theorem bit_lt {x N i : Nat} (hx : x < 2 ^ N) (h : x.testBit i = true) : i < N := by
  by_cases hi : i < N
  · exact hi
  · exfalso
    rw [Nat.testBit_lt_two_pow (Nat.lt_of_lt_of_le hx (Nat.pow_le_pow_right (by omega) (by omega)))] at h
    cases h
theorem pow_32 {N : Nat} (h : N ≤ 32) : 2 ^ N ≤ 4294967296 := by
  have := Nat.pow_le_pow_right (n := 2) (by omega) h
  omega

set_option maxRecDepth 100000 in
set_option maxHeartbeats 8000000 in
theorem bound_any (F : Nat → Nat) (N fb fc gb m : Nat) (x : Nat) (w : World) (hN : N ≤ 32) (hF : Hid (∀ i, i < N → F i < 4294967296)) (hx : x < 2 ^ N) (hs : Hid (Srch F N fb fc gb m w)) (hT : Hid (∀ n, BitTab (w.drewN n))) :
    Calls Tryd.prog 88 #[.pointer (some ⟨gb, 0, none⟩), .int .u64 (x : Int)] w fun e w' => e = .returned (.int .i64 ((bnd F 64 x : Nat) : Int)) ∧ ∃ q, w' = w.drewN q := by
  have hN' := pow_32 hN
  have q0 := cell_of_row w gb 0 _ _ _ hs.out.1
  simp only [List.getElem?_toArray, List.getElem?_cons_zero] at q0
  have HP : Hid (2 ^ N ≤ 4294967296) := hN'
  have HX0 := Lib.hid hx
  clear hx hN'
  go_enter Tryd.func88, Tryd.ntmps88
  go_wp2
  go_loopw [1, 5] (fun xv kv wr => ∃ (y k j q : Nat), Hid (y < 2 ^ N) ∧ xv = .int .u64 (y : Int) ∧ kv = .int .i64 (k : Int) ∧ Hid (k + bnd F j y = bnd F 64 x) ∧ Hid ((bitsL y).length ≤ j) ∧ k + j ≤ 64 ∧ wr = w.drewN q) (fun xv _ _ => (intOf xv).toNat)
  case atStart => exact ⟨x, 0, 64, 0, HX0.out, rfl, rfl, by unfold Hid; omega, by unfold Hid bitsL; have := List.length_filter_le (fun i => x.testBit i) (List.range 64); simpa using this, by omega, rfl⟩
  case round =>
    obtain ⟨y, k, j, q, HY, rfl, rfl, HB, HL, hkj, rfl⟩ := hrel
    have hP := HP.out
    have hY := HY.out
    by_cases hy0 : y = 0
    · have hy1 : ((y : Int) != 0) = false := by simp [hy0]
      have HR : Hid (k = bnd F 64 x) := by
        have := HB.out
        rw [hy0, bnd_zero] at this
        exact this
      clear hy0 hP hY
      go_wp2
      go_ret
      exact ⟨ret_int (by rw [HR.out]), q, rfl⟩
    · have hy1 : ((y : Int) != 0) = true := by simp [hy0]
      have hl1 := wo_len hy0 (by omega)
      have hl2 := HL.out
      obtain ⟨j, rfl⟩ : ∃ j', j = j' + 1 := ⟨j - 1, by omega⟩
      have HB2 : Hid (k + 1 + bnd F j (grp F 64 y y) = bnd F 64 x) := by
        have := HB.out
        rw [bnd_step hy0] at this
        unfold Hid; omega
      obtain ⟨hg1, hg2⟩ := grp_len (F := F) hy0 (by omega)
      have HG1 : Hid ((bitsL (grp F 64 y y)).length ≤ j) := by unfold Hid; omega
      have HLY : Hid ((bitsL y).length ≤ 64) := by unfold Hid bitsL; have := List.length_filter_le (fun i => y.testBit i) (List.range 64); simpa using this
      have HGE : Hid (grp F 64 y y = grp F 64 y y) := rfl
      generalize hG : grp F 64 y y = G at HB2 hg2 HG1 HGE
      have HG := Lib.hid hG
      clear hl1 hl2 hg1 HB HL hy0 hG hP hY HGE
      go_wp2
      go_loopw [1, 6] (fun xv zv wr => ∃ (x' z i q' : Nat), Hid (x' < 2 ^ N) ∧ Hid (z < 2 ^ N) ∧ xv = .int .u64 (x' : Int) ∧ zv = .int .u64 (z : Int) ∧ Hid (grp F i x' z = G) ∧ Hid ((bitsL z).length ≤ i) ∧ wr = w.drewN q') (fun _ zv _ => (intOf zv).toNat)
      case atStart => exact ⟨y, y, 64, q, HY.out, HY.out, rfl, rfl, HG.out, HLY.out, rfl⟩
      case round =>
        obtain ⟨x', z, i, q', HX', HZ, rfl, rfl, HGR, HLZ, rfl⟩ := hrel
        have hP := HP.out
        have hZ := HZ.out
        have hX := HX'.out
        by_cases hz0 : z = 0
        · have hz1 : ((z : Int) != 0) = false := by simp [hz0]
          have HR : Hid (x' = G) := by
            have := HGR.out
            rw [hz0, grp_zero] at this
            exact this
          clear hz0 hP hZ hX
          go_wp2
          go_roundw
          case rel => exact ⟨x', k + 1, j, q', HX'.out, rfl, by go_num, by unfold Hid; rw [HR.out]; exact HB2.out, by unfold Hid; rw [HR.out]; exact HG1.out, by omega, rfl⟩
          case measure => have := HR.out; simp [intOf]; omega
        · have hz1 : ((z : Int) != 0) = true := by simp [hz0]
          obtain ⟨c1, c2, _⟩ := ctz_bit hz0 (by omega)
          have hl1 := wo_len hz0 (by omega)
          have hl2 := HLZ.out
          have hlt := wo_lt hz0 (by omega)
          have hvN := bit_lt hZ c1
          obtain ⟨i, rfl⟩ : ∃ i', i = i' + 1 := ⟨i - 1, by omega⟩
          have HGR2 : Hid (grp F i (wo x' (Lib.ctz 64 z)) (dif (wo z (Lib.ctz 64 z)) (F (Lib.ctz 64 z))) = G) := by
            have := HGR.out
            rw [grp_step hz0] at this
            exact this
          have HLN : Hid ((bitsL (dif (wo z (Lib.ctz 64 z)) (F (Lib.ctz 64 z)))).length ≤ i) := by
            have h2 : (bitsL (dif (wo z (Lib.ctz 64 z)) (F (Lib.ctz 64 z)))).length ≤ (bitsL (wo z (Lib.ctz 64 z))).length := bitsL_len_and _ _
            unfold Hid; omega
          have h64 : (18446744073709551616 : Nat) = 2 ^ 64 := by decide
          have HFI := fun W hT => first_any z (by omega) W hT
          generalize Lib.ctz 64 z = v at *
          have x1 := hs.out.2 v hvN
          have hFv := hF.out v hvN
          have HW1 := fun W => without_any x' v (by omega) c2 W
          have HW2 := fun W => without_any z v (by omega) c2 W
          have hw1 : wo x' v ≤ x' := wo_le _ _
          have hw2 : dif (wo z v) (F v) ≤ wo z v := dif_le _ _
          have HDF := dif_u64 (wo z v) (F v) (by omega) (by omega)
          have HXN : Hid (wo x' v < 2 ^ N) := by unfold Hid; omega
          have HZN : Hid (dif (wo z v) (F v) < 2 ^ N) := by unfold Hid; omega
          have HZL : Hid (dif (wo z v) (F v) < z) := by unfold Hid; omega
          change ∀ W, Calls _ _ _ W (fun e w' => e = .returned (.int .u64 ((wo x' v : Nat) : Int)) ∧ W = w') at HW1
          change ∀ W, Calls _ _ _ W (fun e w' => e = .returned (.int .u64 ((wo z v : Nat) : Int)) ∧ W = w') at HW2
          have x1' : (w.drewN q').cell? ⟨fb, v, none⟩ = some (.int .u64 ((F v : Nat) : Int)) := x1
          have q0' : (w.drewN q').cell? ⟨gb, 0, none⟩ = some (Value.slice (some ⟨fb, 0, none⟩) N fc) := q0
          have hk0 : (0 : Int) ≤ (v : Int) := by omega
          have hk1 : (v : Int) < (N : Int) := by omega
          generalize hD : dif (wo z v) (F v) = D at *
          generalize wo x' v = X2 at *
          generalize wo z v = Z2 at *
          clear hl1 hl2 hlt hz0 hP hZ hX h64 hFv hw1 hw2 c1 hD
          go_wp2_with (first | (go_at_call 48; refine (HFI _ (hT.out q')).mono ?_; rintro e w1 ⟨rfl, rfl⟩) | (go_at_call 59; refine (HW1 _).mono ?_; rintro e w1 ⟨rfl, rfl⟩))
          go_quiet (first | (go_at_call 59; refine Calls.mono (HW2 _) ?_; rintro e w1 ⟨rfl, rfl⟩; exact ⟨rfl, _, rfl⟩))
          go_wp2
          go_roundw
          case rel => exact ⟨X2, D, i, _, HXN.out, HZN.out, rfl, rfl, HGR2.out, HLN.out, World.drewN_drewN _ _ _⟩
          case measure => have := HZL.out; simp [intOf]; omega
end Go.Proofs.YtpkkibnpjhlfmaaDoor
