/-
  The walks of IsName: the model's and the program's both return 'nameB' of the text's bytes.
-/
import Derived.Test.YtemeaeafdhgfaaaProg
import Derived.Test.YtemeaeafdhgfaaaNameMath
import Derived.WalkKit
import Derived.Lib.Hide
import Derived.Outline
import Derived.LoopTactic
import Derived.Laws.RangeString
import Derived.Laws.RangeAny
import Derived.Laws.Runes
import Derived.BigQuiet
import Derived.Deep.QuietTactic
namespace Go.Proofs.Ytemeaeafdhgfaaa
open Go.RowKit

theorem ret_bool {a b : Bool} (h : a = b) : Ending.returned (.bool a) = .returned (.bool b) := by rw [h]

theorem l01Small_any (c : Int) (w : World) : Calls Try.prog 59 #[.int .u8 c] w fun e w' => e = .returned (.bool (smallB c)) ∧ w = w' := by
  by_cases a : 97 ≤ c <;> by_cases b : c ≤ 122
  all_goals
    go_enter Try.func59, Try.ntmps59
    go_wp2
    go_ret
    exact ⟨ret_bool (by simp [smallB, *]), rfl⟩
theorem l01Digit_any (c : Int) (w : World) : Calls Try.prog 60 #[.int .u8 c] w fun e w' => e = .returned (.bool (digitB c)) ∧ w = w' := by
  by_cases a : 48 ≤ c <;> by_cases b : c ≤ 57
  all_goals
    go_enter Try.func60, Try.ntmps60
    go_wp2
    go_ret
    exact ⟨ret_bool (by simp [digitB, *]), rfl⟩
theorem isSmallLetter_any (c : Int) (w : World) : Calls Try.prog 61 #[.int .i32 c] w fun e w' => e = .returned (.bool (smallB c)) ∧ w = w' := by
  by_cases a : 97 ≤ c <;> by_cases b : c ≤ 122
  all_goals
    go_enter Try.func61, Try.ntmps61
    go_wp2
    go_ret
    exact ⟨ret_bool (by simp [smallB, *]), rfl⟩
theorem isDigit_any (c : Int) (w : World) : Calls Try.prog 62 #[.int .i32 c] w fun e w' => e = .returned (.bool (digitB c)) ∧ w = w' := by
  by_cases a : 48 ≤ c <;> by_cases b : c ≤ 57
  all_goals
    go_enter Try.func62, Try.ntmps62
    go_wp2
    go_ret
    exact ⟨ret_bool (by simp [digitB, *]), rfl⟩

theorem size_pos_of {s : ByteArray} {k : Nat} (h : k < s.size) : ¬ s.size = 0 := by omega
theorem getD_get (s : ByteArray) (k : Nat) (h : k < s.size) : s.data.toList.getD k 0 = s[k] := by
  rw [List.getD_eq_getElem?_getD, List.getElem?_eq_getElem (by simpa using h)]; rfl
theorem list_get (s : ByteArray) (k : Nat) (h : k < s.data.toList.length) : s.data.toList[k] = s[k]'(by simpa using h) := rfl

theorem toList_nil {s : ByteArray} (z : s.size = 0) : s.toList = [] := by
  rw [ByteArray.toList_eq]; apply List.eq_nil_of_length_eq_zero; simpa using z
theorem toList_some {s : ByteArray} (z : ¬ s.size = 0) : s.toList.isEmpty = false := by
  rw [ByteArray.toList_eq]
  cases h : s.data.toList with
  | nil => exact absurd (by simpa using congrArg List.length h) z
  | cons a l => rfl
theorem okB_of2 (x : Int) (h : digitB x = true) : okB x = true := by unfold okB; rw [h]; simp
theorem okB_of3 (x : Int) (h : (x == 45) = true) : okB x = true := by unfold okB; rw [h]; simp
theorem byte_lo (b : UInt8) : (0 : Int) ≤ (b.toNat : Int) := by omega
theorem byte_hi (b : UInt8) : (b.toNat : Int) ≤ 255 := by have := b.toNat_lt; omega

set_option maxHeartbeats 1000000 in
theorem specIsName_any (s : ByteArray) (w : World) :
    Calls Try.prog 17 #[.string s] w fun e w' => e = .returned (.bool (nameB s.data.toList)) ∧ w = w' := by
  have HL : Hid (s.data.toList.length = s.size) := by unfold Hid; simp
  by_cases z : s.size = 0
  · have he := toList_nil z
    have hr := ret_bool (nameB_short s.data.toList (by rw [HL]; exact z))
    have Hr := Lib.hid hr
    clear hr
    go_enter Try.func17, Try.ntmps17
    go_wp2
    go_ret
    exact ⟨Hr.out.symm, rfl⟩
  · have he := toList_some z
    by_cases z2 : 12 < s.size
    · have hr := ret_bool (nameB_long s.data.toList (by rw [HL]; exact z2))
      have Hr := Lib.hid hr
      clear hr
      go_enter Try.func17, Try.ntmps17
      go_wp2
      go_ret
      exact ⟨Hr.out.symm, rfl⟩
    · have hp : 0 < s.size := by omega
      cases hsm : smallB (s[0].toNat : Int) with
      | false =>
        have hr := ret_bool (nameB_first s.data.toList (by rw [getD_get s 0 hp]; exact hsm))
        have Hr := Lib.hid hr
        clear hr
        go_enter Try.func17, Try.ntmps17
        go_wp2_with (go_at_call 59; refine (l01Small_any _ _).mono ?_; rintro e w' ⟨rfl, rfl⟩)
        go_ret
        exact ⟨Hr.out.symm, rfl⟩
      | true =>
        go_enter Try.func17, Try.ntmps17
        go_wp2_with (go_at_call 59; refine (l01Small_any _ _).mono ?_; rintro e w' ⟨rfl, rfl⟩)
        go_loop [3] (fun i => ∃ k : Nat, k ≤ s.size ∧ i = .int .i64 k ∧ ∀ j (hj : j < s.size), j < k → okB (s[j].toNat : Int) = true) (fun i => s.size - (intOf i).toNat)
        case atStart => exact ⟨0, by omega, rfl, fun j _ hj => by omega⟩
        case round =>
          obtain ⟨k, hk, rfl, hall⟩ := hrel
          have Hall := Lib.hid hall
          clear hall
          by_cases hlt : k < s.size
          · cases h1 : smallB (s[k].toNat : Int) with
            | true =>
              go_wp2_with (go_at_call 59; refine (l01Small_any _ _).mono ?_; rintro e w' ⟨rfl, rfl⟩)
              go_round
              case rel => exact ⟨k + 1, by omega, by go_num, fun j hj hjk => if e : j = k then (by subst e; exact okB_of _ h1) else Hall.out j hj (by omega)⟩
              case measure => simp [intOf]; omega
            | false => 
              cases h2 : digitB (s[k].toNat : Int) with
              | true =>
                go_wp2_with (first | (go_at_call 59; refine (l01Small_any _ _).mono ?_; rintro e w' ⟨rfl, rfl⟩) | (go_at_call 60; refine (l01Digit_any _ _).mono ?_; rintro e w' ⟨rfl, rfl⟩))
                go_round
                case rel => exact ⟨k + 1, by omega, by go_num, fun j hj hjk => if e : j = k then (by subst e; exact okB_of2 _ h2) else Hall.out j hj (by omega)⟩
                case measure => simp [intOf]; omega
              | false =>
                cases h3 : ((s[k].toNat : Int) == 45) with
                | true =>
                  go_wp2_with (first | (go_at_call 59; refine (l01Small_any _ _).mono ?_; rintro e w' ⟨rfl, rfl⟩) | (go_at_call 60; refine (l01Digit_any _ _).mono ?_; rintro e w' ⟨rfl, rfl⟩))
                  go_round
                  case rel => exact ⟨k + 1, by omega, by go_num, fun j hj hjk => if e : j = k then (by subst e; exact okB_of3 _ h3) else Hall.out j hj (by omega)⟩
                  case measure => simp [intOf]; omega
                | false =>
                  have hr := ret_bool (nameB_bad s.data.toList k (by rw [HL]; exact hlt) (by rw [list_get]; exact okB_no _ h1 h2 (by simpa using h3)))
                  have Hr := Lib.hid hr
                  clear hr
                  go_wp2_with (first | (go_at_call 59; refine (l01Small_any _ _).mono ?_; rintro e w' ⟨rfl, rfl⟩) | (go_at_call 60; refine (l01Digit_any _ _).mono ?_; rintro e w' ⟨rfl, rfl⟩))
                  go_ret
                  exact ⟨Hr.out.symm, rfl⟩
          · have hr := ret_bool (nameB_good s.data.toList (by rw [HL]; omega) (by rw [HL]; omega) (by rw [getD_get s 0 hp]; exact hsm) (fun j hj => by rw [list_get]; exact Hall.out j (by rw [HL] at hj; exact hj) (by rw [HL] at hj; omega)))
            have Hr := Lib.hid hr
            clear hr
            go_wp2
            go_ret
            exact ⟨Hr.out.symm, rfl⟩

theorem grown_iter (w : World) (s : ByteArray) (p : Nat) : Below w.heap.size w (w.iter s p) := (Below.refl _ _).alloc (Nat.le_refl _) _
set_option maxHeartbeats 1000000 in
theorem implIsName_any (s : ByteArray) (w : World) :
    Calls Try.prog 18 #[.string s] w fun e w' => e = .returned (.bool (nameB s.data.toList)) ∧ Below w.heap.size w w' := by
  have HL : Hid (s.data.toList.length = s.size) := by unfold Hid; simp
  by_cases z : s.size = 0
  · have he := toList_nil z
    have hr := ret_bool (nameB_short s.data.toList (by rw [HL]; exact z))
    have Hr := Lib.hid hr
    clear hr
    go_enter Try.func18, Try.ntmps18
    go_wp2
    go_ret
    exact ⟨Hr.out.symm, Below.refl _ _⟩
  · have he := toList_some z
    by_cases z2 : 12 < s.size
    · have hr := ret_bool (nameB_long s.data.toList (by rw [HL]; exact z2))
      have Hr := Lib.hid hr
      clear hr
      go_enter Try.func18, Try.ntmps18
      go_wp2
      go_ret
      exact ⟨Hr.out.symm, Below.refl _ _⟩
    · have hp : 0 < s.size := by omega
      go_enter Try.func18, Try.ntmps18
      go_wp2
      go_loopw [3] (fun i w' => ∃ pos : Nat, w' = w.iter s pos ∧ pos ≤ s.size ∧ (∀ j (hj : j < s.size), j < pos → okB (s[j].toNat : Int) = true) ∧ (0 < pos → smallB (s[0].toNat : Int) = true)) (fun _ w' => s.size - w'.iterPos w.heap.size)
      case atStart => exact ⟨0, rfl, by omega, fun j _ hj => by omega, fun h => by omega⟩
      case round =>
        obtain ⟨pos, rfl, hpos, hall, hsm⟩ := hrel
        have Hall := Lib.hid hall
        have Hsm := Lib.hid hsm
        clear hall hsm
        by_cases hlt : pos < s.size
        · have hnx : ∀ ty, (Instr.next (.pointer (some ⟨w.heap.size, 0, none⟩)) true ty).run Try.prog (w.iter s pos) = _ := fun ty => run_next_any w s pos ty hlt
          generalize hD : Utf8.decode s pos = D at hnx
          obtain ⟨r, wd⟩ := D
          by_cases ha : (s[pos]'hlt).toNat < 128
          · rw [decode_ascii s pos hlt ha] at hD
            obtain ⟨rfl, rfl⟩ := Prod.mk.inj hD
            clear hD
            cases h1 : smallB (s[pos].toNat : Int) with
            | true =>
              go_wp2_with (first | (go_at_call 61; refine (isSmallLetter_any _ _).mono ?_; rintro e w' ⟨rfl, rfl⟩) | (go_at_call 62; refine (isDigit_any _ _).mono ?_; rintro e w' ⟨rfl, rfl⟩))
              go_roundw
              case rel => exact ⟨pos + 1, rfl, by omega, fun j hj hjk => if e : j = pos then (by subst e; exact okB_of _ h1) else Hall.out j hj (by omega), fun _ => if e : pos = 0 then (by subst e; exact h1) else Hsm.out (by omega)⟩
              case measure => simp; omega
            | false =>
              by_cases hz : pos = 0
              · have hr := ret_bool (nameB_first s.data.toList (by rw [getD_get s 0 hp]; subst hz; exact h1))
                have Hr := Lib.hid hr
                have hz' : ((pos : Int) == 0) = true := by simp [hz]
                clear hr
                clear hz
                go_wp2_with (first | (go_at_call 61; refine (isSmallLetter_any _ _).mono ?_; rintro e w' ⟨rfl, rfl⟩) | (go_at_call 62; refine (isDigit_any _ _).mono ?_; rintro e w' ⟨rfl, rfl⟩))
                go_ret
                exact ⟨Hr.out.symm, grown_iter _ _ _⟩
              · have hz' : ((pos : Int) == 0) = false := by simp [hz]
                cases h2 : digitB (s[pos].toNat : Int) with
                | true =>
                  go_wp2_with (first | (go_at_call 61; refine (isSmallLetter_any _ _).mono ?_; rintro e w' ⟨rfl, rfl⟩) | (go_at_call 62; refine (isDigit_any _ _).mono ?_; rintro e w' ⟨rfl, rfl⟩))
                  go_roundw
                  case rel => exact ⟨pos + 1, rfl, by omega, fun j hj hjk => if e : j = pos then (by subst e; exact okB_of2 _ h2) else Hall.out j hj (by omega), fun _ => Hsm.out (by omega)⟩
                  case measure => simp; omega
                | false =>
                  cases h3 : ((s[pos].toNat : Int) == 45) with
                  | true =>
                    go_wp2_with (first | (go_at_call 61; refine (isSmallLetter_any _ _).mono ?_; rintro e w' ⟨rfl, rfl⟩) | (go_at_call 62; refine (isDigit_any _ _).mono ?_; rintro e w' ⟨rfl, rfl⟩))
                    go_roundw
                    case rel => exact ⟨pos + 1, rfl, by omega, fun j hj hjk => if e : j = pos then (by subst e; exact okB_of3 _ h3) else Hall.out j hj (by omega), fun _ => Hsm.out (by omega)⟩
                    case measure => simp; omega
                  | false =>
                    have hr := ret_bool (nameB_bad s.data.toList pos (by rw [HL]; exact hlt) (by rw [list_get]; exact okB_no _ h1 h2 (by simpa using h3)))
                    have Hr := Lib.hid hr
                    clear hr
                    go_wp2_with (first | (go_at_call 61; refine (isSmallLetter_any _ _).mono ?_; rintro e w' ⟨rfl, rfl⟩) | (go_at_call 62; refine (isDigit_any _ _).mono ?_; rintro e w' ⟨rfl, rfl⟩))
                    go_ret
                    exact ⟨Hr.out.symm, grown_iter _ _ _⟩
          · obtain ⟨hr, _⟩ := decode_high s pos hlt (by omega)
            rw [hD] at hr
            have hr128 : 128 ≤ r := hr
            have h1 := smallB_high (r : Int) (by omega)
            have h2 := digitB_high (r : Int) (by omega)
            have h3 : ((r : Int) == 45) = false := by simp; omega
            have hr := ret_bool (nameB_bad s.data.toList pos (by rw [HL]; exact hlt) (by rw [list_get]; exact okB_high _ (by omega)))
            have Hr := Lib.hid hr
            clear hr hD
            by_cases hz : pos = 0
            · have hz' : ((pos : Int) == 0) = true := by simp [hz]
              clear hz
              go_wp2_with (first | (go_at_call 61; refine (isSmallLetter_any _ _).mono ?_; rintro e w' ⟨rfl, rfl⟩) | (go_at_call 62; refine (isDigit_any _ _).mono ?_; rintro e w' ⟨rfl, rfl⟩))
              go_ret
              exact ⟨Hr.out.symm, grown_iter _ _ _⟩
            · have hz' : ((pos : Int) == 0) = false := by simp [hz]
              go_wp2_with (first | (go_at_call 61; refine (isSmallLetter_any _ _).mono ?_; rintro e w' ⟨rfl, rfl⟩) | (go_at_call 62; refine (isDigit_any _ _).mono ?_; rintro e w' ⟨rfl, rfl⟩))
              go_ret
              exact ⟨Hr.out.symm, grown_iter _ _ _⟩
        · have hnx : ∀ ty, (Instr.next (.pointer (some ⟨w.heap.size, 0, none⟩)) true ty).run Try.prog (w.iter s pos) = _ := fun ty => run_next_end w s pos ty hlt
          have hr := ret_bool (nameB_good s.data.toList (by rw [HL]; omega) (by rw [HL]; omega) (by rw [getD_get s 0 hp]; exact Hsm.out (by omega)) (fun j hj => by rw [list_get]; exact Hall.out j (by rw [HL] at hj; exact hj) (by rw [HL] at hj; omega)))
          have Hr := Lib.hid hr
          clear hr
          go_wp2
          go_ret
          exact ⟨Hr.out.symm, grown_iter _ _ _⟩
end Go.Proofs.Ytemeaeafdhgfaaa
namespace Go.Proofs.Ytemeaeafdhgfaaa.fnExactIsName
open Go.RowKit
set_option maxHeartbeats 1000000 in
theorem walk (a0 : ByteArray) (w0 : a0.size ≤ maxLen) (w : World) :
    Calls Try.prog 3 #[.string a0] w fun e w' => e = .returned (.bool true) ∧ Below w.heap.size w w' := by
  unfold maxLen at w0
  by_cases h : 1048576 < a0.size
  · go_enter Try.func3, Try.ntmps3
    go_wp2
    go_ret
    exact ⟨rfl, Below.refl _ _⟩
  · go_enter Try.func3, Try.ntmps3
    go_wp2_with (first | (go_at_call 17; refine (specIsName_any _ _).mono ?_; rintro e w' ⟨rfl, rfl⟩) | (go_at_call 18; refine (implIsName_any _ _).mono ?_; rintro e w' ⟨rfl, hb⟩))
    go_ret
    exact ⟨rfl, hb⟩
end Go.Proofs.Ytemeaeafdhgfaaa.fnExactIsName
