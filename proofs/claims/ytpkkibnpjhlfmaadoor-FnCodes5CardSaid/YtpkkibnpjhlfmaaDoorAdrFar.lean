/-
  The walks of the distance of two words: the model's l05Far, the program's distanceOf.
-/
import Derived.Test.YtpkkibnpjhlfmaaDoorProg
import Derived.Test.YtpkkibnpjhlfmaaDoorAdrMath
import Derived.Test.YtpkkibnpjhlfmaaDoorTexts
import Derived.Test.YtpkkibnpjhlfmaaDoorIn
import Derived.WalkKit
import Derived.Lib.Hide
import Derived.Outline
import Derived.LoopTactic
import Derived.Laws.IdiomStrings
import Derived.BigQuiet
import Derived.Deep.QuietTactic
import Derived.Deep.RegionHeld3
namespace Go.Proofs.YtpkkibnpjhlfmaaDoor
open Go.RowKit

theorem isWithin_any (x lo hi : Int) (w : World) : Calls Tryd.prog 64 #[.int .i64 x, .int .i64 lo, .int .i64 hi] w fun e w' => e = .returned (.bool (inB x lo hi)) ∧ w = w' := by
  by_cases a : lo ≤ x <;> by_cases b : x ≤ hi
  all_goals
    go_enter Tryd.func64, Tryd.ntmps64
    go_wp2
    go_ret
    exact ⟨ret_bool (by simp [inB, *]), rfl⟩
theorem l05Signs_any (x : Int) (w : World) : Calls Tryd.prog 83 #[.int .i64 x] w fun e w' => e = .returned (.bool (inB x 2 4)) ∧ w = w' := by
  go_enter Tryd.func83, Tryd.ntmps83
  go_wp2_with (go_at_call 61; refine (l00In_any _ _ _ _).mono ?_; rintro e w' ⟨rfl, rfl⟩)
  go_ret
  exact ⟨rfl, rfl⟩
theorem byte_ways (a b : UInt8) : (((((a.toNat : Int) == (b.toNat : Int)) = true ∧ ((a.toNat : Int) != (b.toNat : Int)) = false) ∧ a = b)) ∨ ((((a.toNat : Int) == (b.toNat : Int)) = false ∧ ((a.toNat : Int) != (b.toNat : Int)) = true) ∧ ¬ a = b) := by
  by_cases h : a = b
  · exact .inl ⟨⟨by simp [h], by simp [h]⟩, h⟩
  · have h2 : ¬ (a.toNat : Int) = (b.toNat : Int) := fun e => h (UInt8.toNat_inj.1 (by omega))
    exact .inr ⟨⟨by simp [h2], by simp [h2]⟩, h⟩

set_option maxHeartbeats 1000000 in
theorem l05Far_any (a b : ByteArray) (hl : a.size = b.size) (hs : a.size ≤ 1048576) (w : World) :
    Calls Tryd.prog 51 #[.string a, .string b] w fun e w' => e = .returned (.int .i64 ((farL (bl a) (bl b) : Nat) : Int)) ∧ ∃ m, w' = w.drewN m := by
  have HL : Hid ((bl a).length = a.size) := bl_length a
  have HB : Hid (a.size = b.size) := hl
  clear hl
  go_enter Tryd.func51, Tryd.ntmps51
  go_wp2
  go_loopw [5, 6] (fun n i wr => ∃ k m : Nat, k ≤ a.size ∧ i = .int .i64 k ∧ n = .int .i64 ((farN (bl a) (bl b) k : Nat) : Int) ∧ Hid (wr = w.drewN m)) (fun _ i _ => a.size - (intOf i).toNat)
  case atStart => exact ⟨0, 0, by omega, rfl, rfl, rfl⟩
  case round =>
    obtain ⟨k, m, hk, rfl, rfl, HW⟩ := hrel
    by_cases hlt : k < a.size
    · have hlt2 : k < b.size := by rw [← HB.out]; exact hlt
      have hf := farN_le (bl a) (bl b) k
      have HG1 := Lib.hid (bl_getD a k hlt)
      have HG2 := Lib.hid (bl_getD b k hlt2)
      have hk0 : (0 : Int) ≤ (k : Int) := by omega
      have hk1 : (k : Int) < (a.size : Int) := by omega
      have hk2 : (k : Int) < (b.size : Int) := by omega
      rcases byte_ways a[k] b[k] with ⟨⟨e1, e2⟩, e3⟩ | ⟨⟨e1, e2⟩, e3⟩
      · have HF := Lib.hid (farN_same (bl a) (bl b) k (by rw [HG1.out, HG2.out, e3]))
        clear e3
        go_wp2
        go_quiet (fail)
        go_wp2
        go_roundw
        case rel => exact ⟨k + 1, _, by omega, by go_num, by rw [HF.out], by unfold Hid; rw [HW.out]; exact World.drewN_drewN _ _ _⟩
        case measure => simp [intOf]; omega
      · have HF := Lib.hid (farN_more (bl a) (bl b) k (by rw [HG1.out, HG2.out]; exact e3))
        clear e3
        go_wp2
        go_quiet (fail)
        go_wp2
        go_roundw
        case rel => exact ⟨k + 1, _, by omega, by go_num, by rw [HF.out]; go_num, by unfold Hid; rw [HW.out]; exact World.drewN_drewN _ _ _⟩
        case measure => simp [intOf]; omega
    · have hke : k = a.size := by omega
      have HR : Hid (((farN (bl a) (bl b) k : Nat) : Int) = ((farL (bl a) (bl b) : Nat) : Int)) := by unfold Hid farL; rw [HL.out, hke]
      clear hke
      go_wp2
      go_ret
      exact ⟨ret_int HR.out, _, HW.out⟩

set_option maxHeartbeats 1000000 in
theorem distanceOf_any (a b : ByteArray) (hl : a.size = b.size) (hs : a.size ≤ 1048576) (w : World) :
    Calls Tryd.prog 56 #[.string a, .string b] w fun e w' => e = .returned (.int .i64 ((farL (bl a) (bl b) : Nat) : Int)) ∧ ∃ m, w' = w.drewN m := by
  have HL : Hid ((bl a).length = a.size) := bl_length a
  have HB : Hid (a.size = b.size) := hl
  clear hl
  go_enter Tryd.func56, Tryd.ntmps56
  go_wp2
  go_loopw [5, 9] (fun n i wr => ∃ k m : Nat, k ≤ a.size ∧ i = .int .i64 k ∧ n = .int .i64 ((farN (bl a) (bl b) k : Nat) : Int) ∧ Hid (wr = w.drewN m)) (fun _ i _ => a.size - (intOf i).toNat)
  case atStart => exact ⟨0, 0, by omega, rfl, rfl, rfl⟩
  case round =>
    obtain ⟨k, m, hk, rfl, rfl, HW⟩ := hrel
    by_cases hlt : k < a.size
    · have hlt2 : k < b.size := by rw [← HB.out]; exact hlt
      have hf := farN_le (bl a) (bl b) k
      have HG1 := Lib.hid (bl_getD a k hlt)
      have HG2 := Lib.hid (bl_getD b k hlt2)
      have hk0 : (0 : Int) ≤ (k : Int) := by omega
      have hk1 : (k : Int) < (a.size : Int) := by omega
      have hk2 : (k : Int) < (b.size : Int) := by omega
      rcases byte_ways a[k] b[k] with ⟨⟨e1, e2⟩, e3⟩ | ⟨⟨e1, e2⟩, e3⟩
      · have HF := Lib.hid (farN_same (bl a) (bl b) k (by rw [HG1.out, HG2.out, e3]))
        clear e3
        go_wp2
        go_quiet (fail)
        go_wp2
        go_roundw
        case rel => exact ⟨k + 1, _, by omega, by go_num, by rw [HF.out], by unfold Hid; rw [HW.out]; exact World.drewN_drewN _ _ _⟩
        case measure => simp [intOf]; omega
      · have HF := Lib.hid (farN_more (bl a) (bl b) k (by rw [HG1.out, HG2.out]; exact e3))
        clear e3
        go_wp2
        go_quiet (fail)
        go_wp2
        go_roundw
        case rel => exact ⟨k + 1, _, by omega, by go_num, by rw [HF.out]; go_num, by unfold Hid; rw [HW.out]; exact World.drewN_drewN _ _ _⟩
        case measure => simp [intOf]; omega
    · have hke : k = a.size := by omega
      have HR : Hid (((farN (bl a) (bl b) k : Nat) : Int) = ((farL (bl a) (bl b) : Nat) : Int)) := by unfold Hid farL; rw [HL.out, hke]
      clear hke
      go_wp2
      go_ret
      exact ⟨ret_int HR.out, _, HW.out⟩
end Go.Proofs.YtpkkibnpjhlfmaaDoor
