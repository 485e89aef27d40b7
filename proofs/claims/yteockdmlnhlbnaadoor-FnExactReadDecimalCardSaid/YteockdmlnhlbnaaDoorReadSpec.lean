/-
  The walk of the model's ReadDecimal: it hands back what the text is read as.
-/
import Derived.Test.YteockdmlnhlbnaaDoorReadImpl
import Derived.LoopTactic
namespace Go.Proofs.YteockdmlnhlbnaaDoor
open Go.RowKit

def digitB (x : Int) : Bool := decide (48 ≤ x ∧ x ≤ 57)
theorem ret_bool {a b : Bool} (h : a = b) : Ending.returned (.bool a) = .returned (.bool b) := by rw [h]
theorem l01Digit_any (c : Int) (w : World) : Calls Tryd.prog 25 #[.int .u8 c] w fun e w' => e = .returned (.bool (digitB c)) ∧ w = w' := by
  by_cases a : 48 ≤ c <;> by_cases b : c ≤ 57
  all_goals
    go_enter Tryd.func25, Tryd.ntmps25
    go_wp2
    go_ret
    exact ⟨ret_bool (by simp [digitB, *]), rfl⟩

theorem digit_of {b : UInt8} (h : digitB (b.toNat : Int) = true) : Lib.digitVal b = some (b.toNat - 48) ∧ 48 ≤ b.toNat ∧ b.toNat ≤ 57 := by
  unfold digitB at h
  have h2 : (48 : Int) ≤ b.toNat ∧ (b.toNat : Int) ≤ 57 := by simpa using h
  have h3 : 48 ≤ b.toNat ∧ b.toNat ≤ 57 := by omega
  exact ⟨by unfold Lib.digitVal; rw [if_pos h3], h3⟩
theorem digit_no {b : UInt8} (h : digitB (b.toNat : Int) = false) : Lib.digitVal b = none := by
  unfold digitB at h
  have h2 : ¬ ((48 : Int) ≤ b.toNat ∧ (b.toNat : Int) ≤ 57) := by simpa using h
  unfold Lib.digitVal
  rw [if_neg (by omega)]
theorem bytes_at (t : List UInt8) (k : Nat) (h : k < t.length) : (⟨t.toArray⟩ : ByteArray)[k]'(by simpa [ByteArray.size] using h) = t[k] := rfl
theorem decNat_of {t : List UInt8} {m : Nat} (h0 : 0 < t.length) (h : Lib.decFrom 0 (t.take t.length) = some m) : Lib.decNat t = some m := by
  rw [List.take_length] at h
  unfold Lib.decNat
  cases t with
  | nil => simp at h0
  | cons a b => exact h
theorem decNat_no {t : List UInt8} {k : Nat} (hk : k < t.length) (h : Lib.digitVal t[k] = none) : Lib.decNat t = none := by
  cases hd : Lib.decNat t with
  | none => rfl
  | some m =>
    obtain ⟨d, hd'⟩ := Lib.digit_of_decFrom t 0 m (Lib.decNat_some hd).2 k t[k] (List.getElem?_eq_getElem hk)
    rw [h] at hd'
    cases hd'
theorem ans_no {l : List UInt8} (h : Lib.decNat (stripM l) = none) : readAns l = .tuple #[.int .i64 0, .bool false] := by
  refine ans_none ?_
  unfold readOf
  split
  · rw [h]
  · rfl
theorem ans_empty {l : List UInt8} (h : stripM l = []) : readAns l = .tuple #[.int .i64 0, .bool false] := ans_no (by rw [h]; rfl)
theorem ans_yes {l : List UInt8} {m : Nat} (h18 : (stripM l).length ≤ 18) (h : Lib.decNat (stripM l) = some m) (hi : Lib.itoa (signOf (negB l) m) = l) : readAns l = .tuple #[.int .i64 (signOf (negB l) m), .bool true] := by
  refine ans_some ?_
  unfold readOf
  rw [if_pos h18, h]
  simp only [if_pos hi]
theorem ans_other {l : List UInt8} {m : Nat} (h18 : (stripM l).length ≤ 18) (h : Lib.decNat (stripM l) = some m) (hi : ¬ Lib.itoa (signOf (negB l) m) = l) : readAns l = .tuple #[.int .i64 0, .bool false] := by
  refine ans_none ?_
  unfold readOf
  rw [if_pos h18, h]
  simp only [if_neg hi]

set_option maxRecDepth 100000 in
set_option maxHeartbeats 2000000 in
theorem l01Number_any (l : List UInt8) (hs : l.length ≤ 1048576) (w : World) :
    Calls Tryd.prog 12 #[.string ⟨l.toArray⟩] w fun e w' => e = .returned (readAns l) ∧ Below w.heap.size w w' := by
  cases l with
  | nil =>
    have HR : Hid (readAns [] = .tuple #[.int .i64 0, .bool false]) := rfl
    go_enter Tryd.func12, Tryd.ntmps12
    go_wp2
    go_ret2
    exact ⟨ret_ans HR.out.symm, Below.refl _ _⟩
  | cons c r =>
    by_cases h45 : c = 45
    · subst h45
      have hsz : r.length ≤ 1048575 := by simp at hs; omega
      have HST : Hid (stripM (45 :: r) = r) := rfl
      have HNG : Hid (negB (45 :: r) = true) := rfl
      have ex : (⟨(45 :: r).toArray⟩ : ByteArray).extract 1 (r.length + 1) = ⟨r.toArray⟩ := by
        apply ByteArray.ext
        simp
      by_cases hlen : 1 ≤ r.length ∧ r.length ≤ 18
      · obtain ⟨hl1, hl2⟩ := hlen
        have HL1 := Lib.hid hl1
        have HL2 := Lib.hid hl2
        try simp only [List.length_cons] at hl1 hl2
        go_enter Tryd.func12, Tryd.ntmps12
        go_wp2_with fail
        go_loop [5, 6] (fun n i => ∃ (k : Nat) (a : Int), k ≤ r.length ∧ i = .int .i64 k ∧ n = .int .i64 a ∧ Hid (∃ m : Nat, a = m ∧ Lib.decFrom 0 (r.take k) = some m)) (fun _ i => r.length - (intOf i).toNat)
        case atStart => exact ⟨0, 0, by omega, rfl, rfl, 0, rfl, rfl⟩
        case round =>
          obtain ⟨k, a, hk, rfl, rfl, HM⟩ := hrel
          have ha0 : 0 ≤ a := by obtain ⟨m, rfl, _⟩ := HM.out; omega
          by_cases hlt : k < r.length
          · have ha1 : a < 100000000000000000 := by
              obtain ⟨m, rfl, h⟩ := HM.out
              have := Lib.decFrom_take_lt h (by have := HL2.out; omega)
              omega
            have hat : Hid ((⟨r.toArray⟩ : ByteArray)[k]'(by simpa [ByteArray.size] using hlt) = r[k]) := rfl
            have hlt' := hlt
            try simp only [List.length_cons] at hlt'
            cases hd : digitB (((⟨r.toArray⟩ : ByteArray)[k]'(by simpa [ByteArray.size] using hlt)).toNat : Int) with
            | true =>
              obtain ⟨dv, dlo, dhi⟩ := digit_of hd
              have HDV := Lib.hid dv
              clear dv
              go_wp2_with (go_at_call 25; refine (l01Digit_any _ _).mono ?_; rintro e w' ⟨rfl, rfl⟩)
              go_round
              case rel =>
                obtain ⟨m, hm, h⟩ := HM.out
                have h2 := Lib.decFrom_take r k 0 m _ _ h (List.getElem?_eq_getElem hlt) (by rw [← hat.out]; exact HDV.out)
                refine ⟨k + 1, _, by omega, by go_num, rfl, _, ?_, h2⟩
                rw [hm]
                omega
              case measure => simp [intOf]; omega
            | false =>
              have HR := Lib.hid (ans_no (l := (45 :: r)) (by rw [HST.out]; exact decNat_no hlt (by rw [← hat.out]; exact digit_no hd)))
              go_wp2_with (go_at_call 25; refine (l01Digit_any _ _).mono ?_; rintro e w' ⟨rfl, rfl⟩)
              go_ret2
              exact ⟨ret_ans HR.out.symm, Below.refl _ _⟩
          · have hke : k = r.length := by omega
            have HD : Hid (∃ m : Nat, a = m ∧ Lib.decNat r = some m) := by
              obtain ⟨m, h1, h2⟩ := HM.out
              rw [hke] at h2
              exact ⟨m, h1, decNat_of HL1.out h2⟩
            have ha1 : a < 1000000000000000000 := by
              obtain ⟨m, rfl, h⟩ := HD.out
              have := decNat_le18 HL2.out h
              omega
            have hlt' := hlt
            try simp only [List.length_cons] at hlt'
            by_cases hi : Lib.itoa (-a) = (45 :: r)
            · have HR : Hid (readAns (45 :: r) = .tuple #[.int .i64 (-a), .bool true]) := by
                obtain ⟨m, rfl, h⟩ := HD.out
                have h2 := ans_yes (l := (45 :: r)) (m := m) (by rw [HST.out]; exact HL2.out) (by rw [HST.out]; exact h) (by rw [HNG.out]; exact hi)
                rw [HNG.out] at h2
                exact h2
              go_wp2_with (go_at_call 26; refine (l01Dec_any (-a) (by omega) (by omega) _).mono ?_; rintro e w1 ⟨rfl, hb1⟩)
              go_ret2
              exact ⟨ret_ans HR.out.symm, hb1⟩
            · have HR : Hid (readAns (45 :: r) = .tuple #[.int .i64 0, .bool false]) := by
                obtain ⟨m, rfl, h⟩ := HD.out
                exact ans_other (l := (45 :: r)) (m := m) (by rw [HST.out]; exact HL2.out) (by rw [HST.out]; exact h) (by rw [HNG.out]; exact hi)
              have es1 : (Lib.itoa (-a) == (45 :: r)) = false := by simpa using hi
              have es2 : (Lib.itoa (-a) == (⟨((45 :: r)).toArray⟩ : ByteArray).toList) = false := by rw [ByteArray.toList_eq]; simpa using hi
              go_wp2_with (go_at_call 26; refine (l01Dec_any (-a) (by omega) (by omega) _).mono ?_; rintro e w1 ⟨rfl, hb1⟩)
              go_ret2
              exact ⟨ret_ans HR.out.symm, hb1⟩
      · have HR : Hid (readAns (45 :: r) = .tuple #[.int .i64 0, .bool false]) := by
          refine ans_none ?_
          by_cases h18 : r.length ≤ 18
          · unfold readOf
            rw [HST.out, if_pos h18]
            have h0 : r = [] := List.eq_nil_of_length_eq_zero (by omega)
            rw [h0]; rfl
          · exact readOf_long (by rw [HST.out]; exact h18)
        try simp only [List.length_cons] at hlen
        go_enter Tryd.func12, Tryd.ntmps12
        go_wp2_with fail
        all_goals
          go_ret2
          exact ⟨ret_ans HR.out.symm, Below.refl _ _⟩
    · have hsz : r.length ≤ 1048575 := by simp at hs; omega
      have HST : Hid (stripM (c :: r) = (c :: r)) := strip_other h45
      have HNG : Hid (negB (c :: r) = false) := neg_other h45
      have h0 : (((⟨(c :: r).toArray⟩ : ByteArray)[0]'(by simp [ByteArray.size])).toNat == 45) = false := by
        have h : c.toNat ≠ 45 := fun e => h45 (UInt8.toNat_inj.1 e)
        exact (by simpa using h : (c.toNat == 45) = false)
      have h1 : ((((⟨(c :: r).toArray⟩ : ByteArray)[0]'(by simp [ByteArray.size])).toNat : Int) == 45) = false := by
        have h : ¬ (c.toNat : Int) = 45 := fun e => h45 (UInt8.toNat_inj.1 (show c.toNat = 45 by omega))
        exact (by simpa using h : ((c.toNat : Int) == 45) = false)
      by_cases hlen : 1 ≤ (c :: r).length ∧ (c :: r).length ≤ 18
      · obtain ⟨hl1, hl2⟩ := hlen
        have HL1 := Lib.hid hl1
        have HL2 := Lib.hid hl2
        try simp only [List.length_cons] at hl1 hl2
        go_enter Tryd.func12, Tryd.ntmps12
        go_wp2_with fail
        go_loop [5, 6] (fun n i => ∃ (k : Nat) (a : Int), k ≤ (c :: r).length ∧ i = .int .i64 k ∧ n = .int .i64 a ∧ Hid (∃ m : Nat, a = m ∧ Lib.decFrom 0 ((c :: r).take k) = some m)) (fun _ i => (c :: r).length - (intOf i).toNat)
        case atStart => exact ⟨0, 0, by omega, rfl, rfl, 0, rfl, rfl⟩
        case round =>
          obtain ⟨k, a, hk, rfl, rfl, HM⟩ := hrel
          have ha0 : 0 ≤ a := by obtain ⟨m, rfl, _⟩ := HM.out; omega
          by_cases hlt : k < (c :: r).length
          · have ha1 : a < 100000000000000000 := by
              obtain ⟨m, rfl, h⟩ := HM.out
              have := Lib.decFrom_take_lt h (by have := HL2.out; omega)
              omega
            have hat : Hid ((⟨(c :: r).toArray⟩ : ByteArray)[k]'(by simpa [ByteArray.size] using hlt) = (c :: r)[k]) := rfl
            have hlt' := hlt
            try simp only [List.length_cons] at hlt'
            cases hd : digitB (((⟨(c :: r).toArray⟩ : ByteArray)[k]'(by simpa [ByteArray.size] using hlt)).toNat : Int) with
            | true =>
              obtain ⟨dv, dlo, dhi⟩ := digit_of hd
              have HDV := Lib.hid dv
              clear dv
              go_wp2_with (go_at_call 25; refine (l01Digit_any _ _).mono ?_; rintro e w' ⟨rfl, rfl⟩)
              go_round
              case rel =>
                obtain ⟨m, hm, h⟩ := HM.out
                have h2 := Lib.decFrom_take (c :: r) k 0 m _ _ h (List.getElem?_eq_getElem hlt) (by rw [← hat.out]; exact HDV.out)
                refine ⟨k + 1, _, by omega, by go_num, rfl, _, ?_, h2⟩
                rw [hm]
                omega
              case measure => simp [intOf]; omega
            | false =>
              have HR := Lib.hid (ans_no (l := (c :: r)) (by rw [HST.out]; exact decNat_no hlt (by rw [← hat.out]; exact digit_no hd)))
              go_wp2_with (go_at_call 25; refine (l01Digit_any _ _).mono ?_; rintro e w' ⟨rfl, rfl⟩)
              go_ret2
              exact ⟨ret_ans HR.out.symm, Below.refl _ _⟩
          · have hke : k = (c :: r).length := by omega
            have HD : Hid (∃ m : Nat, a = m ∧ Lib.decNat (c :: r) = some m) := by
              obtain ⟨m, h1, h2⟩ := HM.out
              rw [hke] at h2
              exact ⟨m, h1, decNat_of HL1.out h2⟩
            have ha1 : a < 1000000000000000000 := by
              obtain ⟨m, rfl, h⟩ := HD.out
              have := decNat_le18 HL2.out h
              omega
            have hlt' := hlt
            try simp only [List.length_cons] at hlt'
            by_cases hi : Lib.itoa (a) = (c :: r)
            · have HR : Hid (readAns (c :: r) = .tuple #[.int .i64 (a), .bool true]) := by
                obtain ⟨m, rfl, h⟩ := HD.out
                have h2 := ans_yes (l := (c :: r)) (m := m) (by rw [HST.out]; exact HL2.out) (by rw [HST.out]; exact h) (by rw [HNG.out]; exact hi)
                rw [HNG.out] at h2
                exact h2
              go_wp2_with (go_at_call 26; refine (l01Dec_any (a) (by omega) (by omega) _).mono ?_; rintro e w1 ⟨rfl, hb1⟩)
              go_ret2
              exact ⟨ret_ans HR.out.symm, hb1⟩
            · have HR : Hid (readAns (c :: r) = .tuple #[.int .i64 0, .bool false]) := by
                obtain ⟨m, rfl, h⟩ := HD.out
                exact ans_other (l := (c :: r)) (m := m) (by rw [HST.out]; exact HL2.out) (by rw [HST.out]; exact h) (by rw [HNG.out]; exact hi)
              have es1 : (Lib.itoa (a) == (c :: r)) = false := by simpa using hi
              have es2 : (Lib.itoa (a) == (⟨((c :: r)).toArray⟩ : ByteArray).toList) = false := by rw [ByteArray.toList_eq]; simpa using hi
              go_wp2_with (go_at_call 26; refine (l01Dec_any (a) (by omega) (by omega) _).mono ?_; rintro e w1 ⟨rfl, hb1⟩)
              go_ret2
              exact ⟨ret_ans HR.out.symm, hb1⟩
      · have HR : Hid (readAns (c :: r) = .tuple #[.int .i64 0, .bool false]) := by
          refine ans_none ?_
          by_cases h18 : (c :: r).length ≤ 18
          · unfold readOf
            rw [HST.out, if_pos h18]
            have h0 : (c :: r) = [] := List.eq_nil_of_length_eq_zero (by omega)
            rw [h0]; rfl
          · exact readOf_long (by rw [HST.out]; exact h18)
        try simp only [List.length_cons] at hlen
        go_enter Tryd.func12, Tryd.ntmps12
        go_wp2_with fail
        all_goals
          go_ret2
          exact ⟨ret_ans HR.out.symm, Below.refl _ _⟩

theorem specRead_any (s : ByteArray) (hs : s.size ≤ 1048576) (w : World) :
    Calls Tryd.prog 5 #[.string s] w fun e w' => e = .returned (readAns s.data.toList) ∧ Below w.heap.size w w' := by
  obtain ⟨l, rfl⟩ : ∃ l : List UInt8, s = ⟨l.toArray⟩ := ⟨s.data.toList, rfl⟩
  have hl : l.length ≤ 1048576 := hs
  have HA : Hid (∃ x y, readAns l = .tuple #[.int .i64 x, .bool y]) := by
    unfold Hid readAns
    split
    · exact ⟨_, _, rfl⟩
    · exact ⟨_, _, rfl⟩
  obtain ⟨x, y, hxy⟩ := HA.out
  have HX := Lib.hid hxy
  clear hxy hs
  go_enter Tryd.func5, Tryd.ntmps5
  go_wp2_with (go_at_call 12; refine (l01Number_any l hl _).mono ?_; rintro e w1 ⟨he, hb1⟩; rw [HX.out] at he; subst he)
  go_ret2
  exact ⟨ret_ans HX.out.symm, hb1⟩
end Go.Proofs.YteockdmlnhlbnaaDoor
