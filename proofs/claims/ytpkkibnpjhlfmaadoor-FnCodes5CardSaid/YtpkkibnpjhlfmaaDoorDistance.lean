/-
  The walks of DistanceOf: the model's and the program's both hand back 'distP' of the two texts.
-/
import Derived.Test.YtpkkibnpjhlfmaaDoorAdrWord
import Derived.Handy
namespace Go.Proofs.YtpkkibnpjhlfmaaDoor
open Go.RowKit

/-- The distance of two words and a code. -/
def distP (a b : ByteArray) : Int × Int :=
  if wordB 4 (bl a) = true ∧ wordB 4 (bl b) = true then (if a.size = b.size then (((farL (bl a) (bl b) : Nat) : Int), 0) else (0, 8)) else (0, 1)
theorem ret_pair {p q : Int × Int} (h : p = q) : Ending.returned (.tuple #[.int .i64 p.1, .int .i64 p.2]) = .returned (.tuple #[.int .i64 q.1, .int .i64 q.2]) := by rw [h]
theorem distP_bad1 {a b : ByteArray} (h : wordB 4 (bl a) = false) : distP a b = (0, 1) := by unfold distP; rw [if_neg (by simp [h])]
theorem distP_bad2 {a b : ByteArray} (h : wordB 4 (bl b) = false) : distP a b = (0, 1) := by unfold distP; rw [if_neg (by simp [h])]
theorem distP_len {a b : ByteArray} (h1 : wordB 4 (bl a) = true) (h2 : wordB 4 (bl b) = true) (h : ¬ a.size = b.size) : distP a b = (0, 8) := by unfold distP; rw [if_pos ⟨h1, h2⟩, if_neg h]
theorem distP_far {a b : ByteArray} (h1 : wordB 4 (bl a) = true) (h2 : wordB 4 (bl b) = true) (h : a.size = b.size) : distP a b = (((farL (bl a) (bl b) : Nat) : Int), 0) := by unfold distP; rw [if_pos ⟨h1, h2⟩, if_pos h]

set_option maxRecDepth 100000 in
set_option maxHeartbeats 2000000 in
theorem specDistance_any (a b : ByteArray) (ha : a.size ≤ 1048576) (hb : b.size ≤ 1048576) (w : World) :
    Calls Tryd.prog 16 #[.string a, .string b] w fun e w' => e = .returned (.tuple #[.int .i64 (distP a b).1, .int .i64 (distP a b).2]) ∧ Below w.heap.size w w' := by
  cases h1 : wordB 4 (bl a) with
  | false =>
    have HR := Lib.hid (distP_bad1 (b := b) h1)
    go_enter Tryd.func16, Tryd.ntmps16
    go_wp2_with (go_at_call_of 50 a; refine (l05Word_any 4 (by omega) (by omega) a ha _).mono ?_; rintro e w' ⟨rfl, rfl⟩)
    exact bodyPost_ret (v := .tuple #[.int .i64 0, .int .i64 1]) (by simp [results, Tryd.results16, go_sem]) rfl ⟨(ret_pair HR.out).symm, Below.refl _ _⟩
  | true =>
    cases h2 : wordB 4 (bl b) with
    | false =>
      have HR := Lib.hid (distP_bad2 (a := a) h2)
      go_enter Tryd.func16, Tryd.ntmps16
      go_wp2_with (first | (go_at_call_of 50 a; refine (l05Word_any 4 (by omega) (by omega) a ha _).mono ?_; rintro e w' ⟨rfl, rfl⟩) | (go_at_call_of 50 b; refine (l05Word_any 4 (by omega) (by omega) b hb _).mono ?_; rintro e w' ⟨rfl, rfl⟩))
      exact bodyPost_ret (v := .tuple #[.int .i64 0, .int .i64 1]) (by simp [results, Tryd.results16, go_sem]) rfl ⟨(ret_pair HR.out).symm, Below.refl _ _⟩
    | true =>
      by_cases hl : a.size = b.size
      · have HR := Lib.hid (distP_far h1 h2 hl)
        have HL := Lib.hid hl
        have hne : ((a.size : Int) != (b.size : Int)) = false := by simp [hl]
        clear hl
        go_enter Tryd.func16, Tryd.ntmps16
        go_wp2_with (first | (go_at_call_of 50 a; refine (l05Word_any 4 (by omega) (by omega) a ha _).mono ?_; rintro e w' ⟨rfl, rfl⟩) | (go_at_call_of 50 b; refine (l05Word_any 4 (by omega) (by omega) b hb _).mono ?_; rintro e w' ⟨rfl, rfl⟩) | (go_at_call 51; refine (l05Far_any a b HL.out ha _).mono ?_; rintro e w' ⟨rfl, m, rfl⟩))
        exact bodyPost_ret (v := .tuple #[.int .i64 ((farL (bl a) (bl b) : Nat) : Int), .int .i64 0]) (by simp [results, Tryd.results16, go_sem]) rfl ⟨(ret_pair HR.out).symm, Below.drewN' (Below.refl _ _) _⟩
      · have HR := Lib.hid (distP_len h1 h2 hl)
        have hne : ((a.size : Int) != (b.size : Int)) = true := by rw [bne_iff_ne]; omega
        go_enter Tryd.func16, Tryd.ntmps16
        go_wp2_with (first | (go_at_call_of 50 a; refine (l05Word_any 4 (by omega) (by omega) a ha _).mono ?_; rintro e w' ⟨rfl, rfl⟩) | (go_at_call_of 50 b; refine (l05Word_any 4 (by omega) (by omega) b hb _).mono ?_; rintro e w' ⟨rfl, rfl⟩))
        exact bodyPost_ret (v := .tuple #[.int .i64 0, .int .i64 8]) (by simp [results, Tryd.results16, go_sem]) rfl ⟨(ret_pair HR.out).symm, Below.refl _ _⟩

/-- A block of texts that the call lays reads as them. -/
theorem RS.block (w : World) (ss : List ByteArray) (e : TypeId) : RS (w.alloc (.cells (ss.map Value.string).toArray e)) (some ⟨w.heap.size, 0, none⟩) ss :=
  .inr ⟨w.heap.size, 0, rfl, fun i hi => by simp [go_sem, hi]⟩
theorem two_words (a b : ByteArray) : allWords 4 [a, b] = (wordB 4 (bl a) && wordB 4 (bl b)) := by simp [allWords]

set_option maxRecDepth 100000 in
set_option maxHeartbeats 2000000 in
theorem implDistance_any (a b : ByteArray) (ha : a.size ≤ 1048576) (hb : b.size ≤ 1048576) (w : World) :
    Calls Tryd.prog 15 #[.string a, .string b] w fun e w' => e = .returned (.tuple #[.int .i64 (distP a b).1, .int .i64 (distP a b).2]) ∧ Below w.heap.size w w' := by
  have HS : Hid (∀ s ∈ [a, b], s.size ≤ 1048576) := by unfold Hid; simp; exact ⟨ha, hb⟩
  have HRS := Lib.hid (RS.block w [a, b] 9)
  have HTW := Lib.hid (two_words a b)
  cases hw : allWords 4 [a, b] with
  | false =>
    have HR : Hid (distP a b = (0, 1)) := by
      unfold Hid
      rw [HTW.out] at hw
      cases h1 : wordB 4 (bl a) with
      | false => exact distP_bad1 h1
      | true => exact distP_bad2 (by rw [h1] at hw; simpa using hw)
    go_enter Tryd.func15, Tryd.ntmps15
    go_wp2_with (go_at_call 45; refine (areWords_any 4 (by omega) _ [a, b] 2 _ _ rfl HRS.out (by omega) HS).mono ?_; rintro e w1 ⟨rfl, hb1⟩)
    exact bodyPost_ret (v := .tuple #[.int .i64 0, .int .i64 1]) (by simp [results, Tryd.results15, go_sem]) rfl ⟨(ret_pair HR.out).symm, ((Below.refl _ _).alloc (Nat.le_refl _) _).trans (hb1.mono (by simp))⟩
  | true =>
    have HW : Hid (wordB 4 (bl a) = true ∧ wordB 4 (bl b) = true) := by
      unfold Hid
      rw [HTW.out] at hw
      simpa using hw
    by_cases hl : a.size = b.size
    · have HR := Lib.hid (distP_far HW.out.1 HW.out.2 hl)
      have HL := Lib.hid hl
      have hne : ((a.size : Int) != (b.size : Int)) = false := by simp [hl]
      clear hl
      go_enter Tryd.func15, Tryd.ntmps15
      go_wp2_with (first | (go_at_call 45; refine (areWords_any 4 (by omega) _ [a, b] 2 _ _ rfl HRS.out (by omega) HS).mono ?_; rintro e w1 ⟨rfl, hb1⟩) | (go_at_call 56; refine (distanceOf_any a b HL.out ha _).mono ?_; rintro e w2 ⟨rfl, m, rfl⟩))
      exact bodyPost_ret (v := .tuple #[.int .i64 ((farL (bl a) (bl b) : Nat) : Int), .int .i64 0]) (by simp [results, Tryd.results15, go_sem]) rfl ⟨(ret_pair HR.out).symm, Below.drewN' (((Below.refl _ _).alloc (Nat.le_refl _) _).trans (hb1.mono (by simp))) _⟩
    · have HR := Lib.hid (distP_len HW.out.1 HW.out.2 hl)
      have hne : ((a.size : Int) != (b.size : Int)) = true := by rw [bne_iff_ne]; omega
      go_enter Tryd.func15, Tryd.ntmps15
      go_wp2_with (first | (go_at_call 45; refine (areWords_any 4 (by omega) _ [a, b] 2 _ _ rfl HRS.out (by omega) HS).mono ?_; rintro e w1 ⟨rfl, hb1⟩))
      exact bodyPost_ret (v := .tuple #[.int .i64 0, .int .i64 8]) (by simp [results, Tryd.results15, go_sem]) rfl ⟨(ret_pair HR.out).symm, ((Below.refl _ _).alloc (Nat.le_refl _) _).trans (hb1.mono (by simp))⟩
end Go.Proofs.YtpkkibnpjhlfmaaDoor
