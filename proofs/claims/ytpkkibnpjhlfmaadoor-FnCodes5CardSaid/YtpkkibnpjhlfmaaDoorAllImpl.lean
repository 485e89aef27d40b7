/-
  The walks of all words: the program's count, words, check.
-/
import Derived.Test.YtpkkibnpjhlfmaaDoorAllMath
import Derived.Test.YtpkkibnpjhlfmaaDoorAdrFar
import Derived.Deep.AppendLies
import Derived.Lib.OthersKept
import Derived.Laws.Runes
import Derived.WalkLawsBesides
import Derived.OwnWalk
namespace Go.Proofs.YtpkkibnpjhlfmaaDoor
open Go.RowKit

set_option maxRecDepth 100000 in
set_option maxHeartbeats 1000000 in
theorem count_any (g r : Nat) (hg1 : 1 ≤ g) (hg : g ≤ 4) (hr : r ≤ 8) (w : World) :
    Calls Tryd.prog 76 #[.agg #[.int .i64 (g : Int), .int .i64 (r : Int)]] w fun e w' => e = .returned (.int .i64 ((g ^ r : Nat) : Int)) ∧ Below w.heap.size w w' := by
  go_enter Tryd.func76, Tryd.ntmps76
  go_wp2
  go_loopw [3, 6] (fun q i wr => ∃ k : Nat, k ≤ r ∧ i = .int .i64 k ∧ q = .int .i64 ((g ^ k : Nat) : Int) ∧ wr = w.alloc (.cells #[.int .i64 (g : Int), .int .i64 (r : Int)] 81)) (fun _ i _ => r - (intOf i).toNat)
  case atStart => exact ⟨0, by omega, rfl, rfl, rfl⟩
  case round =>
    obtain ⟨k, hk, rfl, rfl, rfl⟩ := hrel
    by_cases hlt : k < r
    · have HE := Lib.hid (pow_succ_cast g k)
      have hb1 := pow_le hg (show k + 1 ≤ 8 by omega)
      have HB1 : Hid (((g ^ k : Nat) : Int) * (g : Int) ≤ 65536) := by unfold Hid; rw [HE.out]; omega
      have hp0 : (0 : Int) ≤ ((g ^ k : Nat) : Int) := by omega
      have hp1 : (0 : Int) ≤ ((g ^ k : Nat) : Int) * (g : Int) := Int.mul_nonneg hp0 (by omega)
      have hp2 := HB1.out
      generalize ((g ^ k : Nat) : Int) = p at hp0 hp1 hp2 HE HB1
      clear hb1
      go_wp2
      go_roundw
      case rel => first | exact ⟨k + 1, by omega, by go_num, by rw [← HE.out], rfl⟩ | exact ⟨k + 1, by omega, by go_num, by rw [← HE.out], trivial⟩ | exact ⟨k + 1, by omega, by go_num, by rw [← HE.out]⟩
      case measure => simp [intOf]; omega
    · have hkr : k = r := by omega
      subst hkr
      go_wp2
      go_ret
      exact ⟨rfl, (Below.refl _ _).alloc (Nat.le_refl _) _⟩

theorem newKind_any (g r d : Int) (w : World) :
    Calls Tryd.prog 67 #[.int .i64 g, .int .i64 r, .int .i64 d] w fun e w' => e = .returned (.agg #[.int .i64 g, .int .i64 r, .int .i64 d]) ∧ Below w.heap.size w w' := by
  go_enter Tryd.func67, Tryd.ntmps67
  go_wp2
  exact bodyPost_ret (v := .agg #[.int .i64 g, .int .i64 r, .int .i64 d]) (by simp [results, Tryd.results67, go_sem]) rfl ⟨rfl, (by repeat (first | exact Below.refl _ _ | refine Below.alloc ?_ (by simp; try omega) _ | refine Below.setCell ?_ (by simp; try omega) _))⟩

theorem codeW_range {g r d most : Int} (h : ¬ (2 ≤ g ∧ g ≤ 4 ∧ 1 ≤ r ∧ r ≤ 8 ∧ 1 ≤ d ∧ d ≤ r)) : codeW g r d most = 2 := if_neg h
theorem codeW_full {g r d most : Int} (h : 2 ≤ g ∧ g ≤ 4 ∧ 1 ≤ r ∧ r ≤ 8 ∧ 1 ≤ d ∧ d ≤ r) (h2 : most < ((g.toNat ^ r.toNat : Nat) : Int)) : codeW g r d most = 5 := by unfold codeW; rw [if_pos h, if_pos h2]
theorem codeW_ok {g r d most : Int} (h : 2 ≤ g ∧ g ≤ 4 ∧ 1 ≤ r ∧ r ≤ 8 ∧ 1 ≤ d ∧ d ≤ r) (h2 : ¬ most < ((g.toNat ^ r.toNat : Nat) : Int)) : codeW g r d most = 0 := by unfold codeW; rw [if_pos h, if_neg h2]
theorem inN {x lo hi : Int} (h : ¬ (lo ≤ x ∧ x ≤ hi)) : inB x lo hi = false := by simp only [inB, decide_eq_false_iff_not]; exact h
theorem inY {x lo hi : Int} (h : lo ≤ x ∧ x ≤ hi) : inB x lo hi = true := by simp only [inB, decide_eq_true_eq]; exact h

set_option maxRecDepth 100000 in
set_option maxHeartbeats 2000000 in
theorem check_any (g r d most : Int) (w : World) :
    Calls Tryd.prog 68 #[.agg #[.int .i64 g, .int .i64 r, .int .i64 d], .int .i64 most] w fun e w' => e = .returned (.int .i64 (codeW g r d most)) ∧ Below w.heap.size w w' := by
  by_cases h1 : 2 ≤ g ∧ g ≤ 4
  · have i1 := inY h1
    by_cases h2 : 1 ≤ r ∧ r ≤ 8
    · have i2 := inY h2
      by_cases h3 : 1 ≤ d ∧ d ≤ r
      · have i3 := inY h3
        obtain ⟨gn, rfl⟩ : ∃ gn : Nat, g = gn := ⟨g.toNat, by omega⟩
        obtain ⟨rn, rfl⟩ : ∃ rn : Nat, r = rn := ⟨r.toNat, by omega⟩
        have hct := fun W => count_any gn rn (by omega) (by omega) (by omega) W
        by_cases hf : most < ((gn ^ rn : Nat) : Int)
        · have HR := Lib.hid (codeW_full (most := most) ⟨h1.1, h1.2, h2.1, h2.2, h3.1, h3.2⟩ (by simpa using hf))
          generalize ((gn ^ rn : Nat) : Int) = p at hct hf
          clear h1 h2 h3
          go_enter Tryd.func68, Tryd.ntmps68
          go_wp2_with (first | (go_at_call 64; refine (isWithin_any _ _ _ _).mono ?_; rintro e w' ⟨rfl, rfl⟩) | (go_at_call 76; refine (hct _).mono ?_; rintro e w1 ⟨rfl, hb1⟩))
          go_ret
          exact ⟨ret_int HR.out.symm, Below.trans (by repeat (first | exact Below.refl _ _ | refine Below.alloc ?_ (by simp; try omega) _ | refine Below.setCell ?_ (by simp; try omega) _)) (hb1.mono (by simp))⟩
        · have HR := Lib.hid (codeW_ok (most := most) ⟨h1.1, h1.2, h2.1, h2.2, h3.1, h3.2⟩ (by simpa using hf))
          generalize ((gn ^ rn : Nat) : Int) = p at hct hf
          clear h1 h2 h3
          go_enter Tryd.func68, Tryd.ntmps68
          go_wp2_with (first | (go_at_call 64; refine (isWithin_any _ _ _ _).mono ?_; rintro e w' ⟨rfl, rfl⟩) | (go_at_call 76; refine (hct _).mono ?_; rintro e w1 ⟨rfl, hb1⟩))
          go_ret
          exact ⟨ret_int HR.out.symm, Below.trans (by repeat (first | exact Below.refl _ _ | refine Below.alloc ?_ (by simp; try omega) _ | refine Below.setCell ?_ (by simp; try omega) _)) (hb1.mono (by simp))⟩
      · have i3 := inN h3
        have HR := Lib.hid (codeW_range (most := most) (show ¬ (2 ≤ g ∧ g ≤ 4 ∧ 1 ≤ r ∧ r ≤ 8 ∧ 1 ≤ d ∧ d ≤ r) by omega))
        clear h1 h2 h3
        go_enter Tryd.func68, Tryd.ntmps68
        go_wp2_with (first | (go_at_call 64; refine (isWithin_any _ _ _ _).mono ?_; rintro e w' ⟨rfl, rfl⟩))
        go_ret
        exact ⟨ret_int HR.out.symm, (by repeat (first | exact Below.refl _ _ | refine Below.alloc ?_ (by simp; try omega) _ | refine Below.setCell ?_ (by simp; try omega) _))⟩
    · have i2 := inN h2
      have HR := Lib.hid (codeW_range (most := most) (show ¬ (2 ≤ g ∧ g ≤ 4 ∧ 1 ≤ r ∧ r ≤ 8 ∧ 1 ≤ d ∧ d ≤ r) by omega))
      clear h1 h2
      go_enter Tryd.func68, Tryd.ntmps68
      go_wp2_with (first | (go_at_call 64; refine (isWithin_any _ _ _ _).mono ?_; rintro e w' ⟨rfl, rfl⟩))
      go_ret
      exact ⟨ret_int HR.out.symm, (by repeat (first | exact Below.refl _ _ | refine Below.alloc ?_ (by simp; try omega) _ | refine Below.setCell ?_ (by simp; try omega) _))⟩
  · have i1 := inN h1
    have HR := Lib.hid (codeW_range (most := most) (show ¬ (2 ≤ g ∧ g ≤ 4 ∧ 1 ≤ r ∧ r ≤ 8 ∧ 1 ≤ d ∧ d ≤ r) by omega))
    clear h1
    go_enter Tryd.func68, Tryd.ntmps68
    go_wp2_with (first | (go_at_call 64; refine (isWithin_any _ _ _ _).mono ?_; rintro e w' ⟨rfl, rfl⟩))
    go_ret
    exact ⟨ret_int HR.out.symm, (by repeat (first | exact Below.refl _ _ | refine Below.alloc ?_ (by simp; try omega) _ | refine Below.setCell ?_ (by simp; try omega) _))⟩
end Go.Proofs.YtpkkibnpjhlfmaaDoor
