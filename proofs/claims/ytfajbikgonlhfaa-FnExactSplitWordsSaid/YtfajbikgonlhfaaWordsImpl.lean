/-
  SplitWords: the program's walk.
-/
import Derived.Test.YtfajbikgonlhfaaWords
import Derived.Test.YtfajbikgonlhfaaShelf
namespace Go.Proofs.Ytfajbikgonlhfaa
open Go.RowKit
theorem isBlank_any (x : Int) (w : World) : Calls Try.prog 11 #[.int .i32 x] w fun e w' => e = .returned (.bool (x == 32)) ∧ w = w' := by
  go_enter Try.func11, Try.ntmps11
  go_wp2
  go_ret
  exact ⟨rfl, rfl⟩
set_option maxRecDepth 100000 in
set_option maxHeartbeats 4000000 in
theorem implWords_any (s : ByteArray) (hs : s.size ≤ 1048576) (w : World) : Calls Try.prog 5 #[.string s] w (GivesS1 (wordsOf s) w) := by
  have HP : Go.Proofs.PredGrows Try.prog 11 #[] (fun r => r == 32) w := by
    intro W x hx hB
    refine (isBlank_any (x : Int) W).mono ?_
    rintro e w' ⟨rfl, rfl⟩
    refine ⟨ret_bool ?_, Below.refl _ _⟩
    by_cases h : x = 32
    · subst h; rfl
    · have h1 : ((x : Int) == 32) = false := by simp; omega
      have h2 : (x == 32) = false := by simp [h]
      rw [h1]; exact h2.symm
  have HF := Go.Proofs.Any.strings_FieldsFunc_grows Try.lays229 11 #[] (enters_of Try.func11 (by kernel_rfl) rfl) (fun r => r == 32) s w (by omega) HP (by kernel_rfl) (by kernel_rfl)
  go_enter Try.func5, Try.ntmps5
  go_wp2_with fail
  refine Calls.mono HF ?_
  rintro e w1 ⟨A, rfl, hA, ho, hb⟩
  go_wp2
  go_ret
  exact ⟨_, _, _, rfl, rfl, hb, ho⟩
end Go.Proofs.Ytfajbikgonlhfaa
