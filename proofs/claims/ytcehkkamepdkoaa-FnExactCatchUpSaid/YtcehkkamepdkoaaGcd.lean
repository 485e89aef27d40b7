/-
  The walks of l00Gcd and lowest: they return the greatest common divisor, and the fraction divided by it.
-/
import Derived.Test.YtcehkkamepdkoaaRideMath
import Derived.Test.YtcehkkamepdkoaaRec
import Derived.Test.YtcehkkamepdkoaaProg
import Derived.Outline
import Derived.LoopTactic
import Derived.BigQuiet
import Derived.Deep.QuietTactic
import Derived.Deep.RegionHeld3
import Derived.BigRegion
namespace Go.Proofs.Ytcehkkamepdkoaa
open Go.RowKit

theorem l00Gcd_any (a b : Int) (w : World) (ha : 0 ≤ a) (hb : 0 ≤ b) (ha' : a ≤ 4611686018427387904) (hb' : b ≤ 4611686018427387904) : Calls Try.prog 82 #[.int .i64 a, .int .i64 b] w fun e w' => e = .returned (.int .i64 (gcdI a b)) ∧ w = w' := by
  go_enter Try.func82, Try.ntmps82
  go_wp2
  go_loop [0, 1, 5] (fun x y r => ∃ (p q : Int), x = .int .i64 p ∧ y = .int .i64 q ∧ 0 ≤ p ∧ 0 ≤ q ∧ p ≤ 4611686018427387904 ∧ q ≤ 4611686018427387904 ∧ Hid (gcdI p q = gcdI a b)) (fun x y r => (intOf y).toNat)
  case atStart => exact ⟨a, b, rfl, rfl, ha, hb, ha', hb', rfl⟩
  case round =>
    obtain ⟨p, q, rfl, rfl, hp, hq, hp', hq', HG⟩ := hrel
    by_cases hz : q = 0
    · subst hz
      have HR := gcdI_zero p hp
      go_wp2
      go_ret
      exact ⟨ret_int (by rw [← HG.out, HR]), rfl⟩
    · have hne : (q != 0) = true := by simp [hz]
      have hm0 : 0 ≤ p % q := Int.emod_nonneg _ hz
      have hm1 : p % q < q := Int.emod_lt_of_pos _ (by omega)
      have HS := Lib.hid ((gcdI_step p q hp (by omega)).trans HG.out)
      go_wp2
      go_round
      case rel => exact ⟨q, p % q, rfl, rfl, by omega, by omega, by omega, by omega, HS.out⟩
      case measure => simp [intOf]; omega
theorem l00Size_any (a : Int) (w : World) (ha : 0 ≤ a) : Calls Try.prog 83 #[.int .i64 a] w fun e w' => e = .returned (.int .i64 a) ∧ w = w' := by
  go_enter Try.func83, Try.ntmps83
  go_wp2
  go_ret
  exact ⟨rfl, rfl⟩
theorem l02Make_any (a b : Int) (w : World) (ha : 0 ≤ a) (hb : 0 < b) (ha' : a ≤ 4611686018427387904) (hb' : b ≤ 4611686018427387904) : Calls Try.prog 50 #[.int .i64 a, .int .i64 b] w fun e w' => e = .returned (.agg #[.int .i64 (a / gcdI a b), .int .i64 (b / gcdI a b)]) ∧ Below w.heap.size w w' := by
  have hg := gcdI_pos a b hb
  have hne : gcdI a b ≠ 0 := by omega
  go_enter Try.func50, Try.ntmps50
  go_wp2_with fail
  refine (l00Size_any a _ ha).mono ?_
  rintro e w1 ⟨rfl, rfl⟩
  go_wp2_with fail
  refine (l00Gcd_any a b _ ha (by omega) ha' hb').mono ?_
  rintro e w2 ⟨rfl, rfl⟩
  generalize hG : gcdI a b = g at hg hne
  have HG := Lib.hid hG
  clear hG
  go_wp2
  go_region
  all_goals go_wp2
  exact bodyPost_ret (v := .agg #[.int .i64 (a / g), .int .i64 (b / g)]) (by simp [results, Try.results50, go_sem]) rfl ⟨by rw [HG.out], (by repeat (first | exact Below.refl _ _ | refine Below.drew ?_ | refine Below.alloc ?_ (by simp; try omega) _ | refine Below.setCell ?_ (by simp; try omega) _))⟩
theorem lowest_any (a b : Int) (w : World) (ha : 0 ≤ a) (hb : 0 < b) (ha' : a ≤ 4611686018427387904) (hb' : b ≤ 4611686018427387904) : Calls Try.prog 84 #[.int .i64 a, .int .i64 b] w fun e w' => e = .returned (.agg #[.int .i64 (a / gcdI a b), .int .i64 (b / gcdI a b)]) ∧ Below w.heap.size w w' := by
  go_enter Try.func84, Try.ntmps84
  go_wp2
  go_loopw [5, 6] (fun x y wr => ∃ (p q : Int), x = .int .i64 p ∧ y = .int .i64 q ∧ 0 ≤ p ∧ 0 ≤ q ∧ p ≤ 4611686018427387904 ∧ q ≤ 4611686018427387904 ∧ Hid (gcdI p q = gcdI a b) ∧ Below w.heap.size w wr ∧ Hid (wr.heap[w.heap.size]? = some (.cells #[.int .i64 0, .int .i64 0] 29 (0, 0)))) (fun x y _ => (intOf y).toNat)
  case atStart => exact ⟨a, b, rfl, rfl, ha, by omega, ha', hb', rfl, (Below.refl _ _).alloc (Nat.le_refl _) _, heap_alloc_new w _⟩
  case round =>
    obtain ⟨p, q, rfl, rfl, hp, hq, hp', hq', HG, hbel, HX⟩ := hrel
    by_cases hz : q = 0
    · subst hz
      have hR := (gcdI_zero p hp).symm.trans HG.out
      have hg := gcdI_pos a b hb
      have hne : p ≠ 0 := by omega
      have hpp : 0 < p := by omega
      have HR := Lib.hid hR
      clear hR hg
      have c0 := cell_of_row wr w.heap.size 0 _ _ _ HX.out
      have c1 := cell_of_row wr w.heap.size 1 _ _ _ HX.out
      have f0 := frozen_of_row wr w.heap.size 0 _ _ HX.out
      have f1 := frozen_of_row wr w.heap.size 1 _ _ HX.out
      simp at c0 c1
      go_wp2
      go_region
      all_goals go_wp2
      have BF : Below w.heap.size w ((wr.setCell ⟨w.heap.size, 0, none⟩ (.int .i64 (a / p))).setCell ⟨w.heap.size, 1, none⟩ (.int .i64 (b / p))).drew := ((hbel.setCell (Nat.le_refl _) _).setCell (Nat.le_refl _) _).drew
      exact bodyPost_ret (v := .agg #[.int .i64 (a / p), .int .i64 (b / p)]) (by simp [results, Try.results84, go_sem, c0, c1]) rfl ⟨by rw [HR.out], BF⟩
    · have hne : (q != 0) = true := by simp [hz]
      have hm0 : 0 ≤ p % q := Int.emod_nonneg _ hz
      have hm1 : p % q < q := Int.emod_lt_of_pos _ (by omega)
      have HS := Lib.hid ((gcdI_step p q hp (by omega)).trans HG.out)
      go_wp2
      go_quiet (fail)
      go_wp2
      go_roundw
      case rel => exact ⟨q, p % q, rfl, rfl, by omega, by omega, by omega, by omega, HS.out, Below.drewN' hbel _, HX.out⟩
      case measure => simp [intOf]; omega
end Go.Proofs.Ytcehkkamepdkoaa
