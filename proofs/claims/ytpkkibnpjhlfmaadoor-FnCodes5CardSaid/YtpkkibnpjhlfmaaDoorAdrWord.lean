/-
  The walks of the tests on words: the model's l05Word, the program's areWords.
-/
import Derived.Test.YtpkkibnpjhlfmaaDoorAdrFar
import Derived.Test.YtpkkibnpjhlfmaaDoorShelf
import Derived.WalkLawsBesides
namespace Go.Proofs.YtpkkibnpjhlfmaaDoor
open Go.RowKit

theorem toListE_nil {s : ByteArray} (z : s.size = 0) : s.toList = [] := by
  rw [ByteArray.toList_eq]; apply List.eq_nil_of_length_eq_zero; simpa using z
theorem toListE_some {s : ByteArray} (z : ¬ s.size = 0) : s.toList.isEmpty = false := by
  rw [ByteArray.toList_eq]
  cases h : s.data.toList with
  | nil => exact absurd (by simpa using congrArg List.length h) z
  | cons a l => rfl
theorem wordP_bytes {g : Nat} {s : ByteArray} (h1 : 1 ≤ s.size) (h8 : s.size ≤ 8) (h : ∀ j (hj : j < s.size), 97 ≤ (s[j].toNat : Int) ∧ (s[j].toNat : Int) ≤ 97 + g - 1) : WordP g (bl s) := by
  refine ⟨by rw [bl_length]; exact h1, by rw [bl_length]; exact h8, fun b hb => ?_⟩
  obtain ⟨j, hj, rfl⟩ := List.getElem_of_mem hb
  have := h j (by simpa using hj)
  rw [bl_get]
  omega
theorem wordP_byte {g : Nat} {s : ByteArray} (h : WordP g (bl s)) (j : Nat) (hj : j < s.size) : 97 ≤ (s[j].toNat : Int) ∧ (s[j].toNat : Int) ≤ 97 + g - 1 := by
  have h1 := h.2.2 ((bl s)[j]'(by simpa using hj)) (List.getElem_mem _)
  rw [bl_get] at h1
  omega
theorem wordB_longer {g : Nat} {s : ByteArray} (h : ¬ (1 ≤ s.size ∧ s.size ≤ 8)) : wordB g (bl s) = false := wordB_no fun h2 => h ⟨by have := h2.1; rwa [bl_length] at this, by have := h2.2.1; rwa [bl_length] at this⟩
theorem wordB_byte {g : Nat} {s : ByteArray} (j : Nat) (hj : j < s.size) (h : inB (s[j].toNat : Int) 97 (97 + (g : Int) - 1) = false) : wordB g (bl s) = false := wordB_no fun h2 => by
  have := wordP_byte h2 j hj
  simp [inB] at h
  omega
theorem inB_yes {x lo hi : Int} (h : inB x lo hi = true) : lo ≤ x ∧ x ≤ hi := by simpa [inB] using h
theorem inB_no {x lo hi : Int} (h : ¬ (lo ≤ x ∧ x ≤ hi)) : inB x lo hi = false := by simp only [inB, decide_eq_false_iff_not]; exact h
theorem inB_of {x lo hi : Int} (h : lo ≤ x ∧ x ≤ hi) : inB x lo hi = true := by simp only [inB, decide_eq_true_eq]; exact h

/-- The first k bytes are letters of g signs. -/
def upTo (g : Nat) (s : ByteArray) (k : Nat) : Prop := ∀ j (hj : j < s.size), j < k → inB (s[j].toNat : Int) 97 (97 + (g : Int) - 1) = true
theorem upTo_zero (g : Nat) (s : ByteArray) : upTo g s 0 := fun j _ hj => by omega
theorem upTo_next {g : Nat} {s : ByteArray} {k : Nat} (h : upTo g s k) (hk : k < s.size) (h1 : inB (s[k].toNat : Int) 97 (97 + (g : Int) - 1) = true) : upTo g s (k + 1) :=
  fun j hj hjk => if e : j = k then (by subst e; exact h1) else h j hj (by omega)

set_option maxRecDepth 100000 in
set_option maxHeartbeats 1000000 in
theorem l05Word_any (g : Nat) (hg2 : 2 ≤ g) (hg4 : g ≤ 4) (s : ByteArray) (hs : s.size ≤ 1048576) (w : World) :
    Calls Tryd.prog 50 #[.int .i64 (g : Int), .string s] w fun e w' => e = .returned (.bool (wordB g (bl s))) ∧ w = w' := by
  go_enter Tryd.func50, Tryd.ntmps50
  go_wp2_with fail
  go_loop [5] (fun i => ∃ k : Nat, k ≤ s.size ∧ i = .int .i64 k ∧ upTo g s k) (fun i => s.size - (intOf i).toNat)
  case atStart => exact ⟨0, by omega, rfl, upTo_zero g s⟩
  case round =>
    obtain ⟨k, hk, rfl, hall⟩ := hrel
    have Hall := Lib.hid hall
    clear hall
    by_cases hlt : k < s.size
    · have hby : (s[k].toNat : Int) ≤ 255 := by have := s[k].toNat_lt; omega
      cases h1 : inB (s[k].toNat : Int) 97 (97 + (g : Int) - 1) with
      | true =>
        go_wp2_with (go_at_call 61; refine (l00In_any _ _ _ _).mono ?_; rintro e w' ⟨rfl, rfl⟩)
        go_round
        case rel => exact ⟨k + 1, by omega, by go_num, upTo_next Hall.out hlt h1⟩
        case measure => simp [intOf]; omega
      | false =>
        have Hr := Lib.hid (ret_bool (wordB_byte k hlt h1))
        go_wp2_with (go_at_call 61; refine (l00In_any _ _ _ _).mono ?_; rintro e w' ⟨rfl, rfl⟩)
        go_ret
        exact ⟨Hr.out.symm, rfl⟩
    · cases h2 : inB (s.size : Int) 1 8 with
      | true =>
        have h3 := inB_yes h2
        have Hr : Hid (wordB g (bl s) = true) := wordB_yes (wordP_bytes (by omega) (by omega) (fun j hj => inB_yes (Hall.out j hj (by omega))))
        clear h3
        go_wp2_with (go_at_call 61; refine (l00In_any _ _ _ _).mono ?_; rintro e w' ⟨rfl, rfl⟩)
        go_ret
        exact ⟨ret_bool Hr.out.symm, rfl⟩
      | false =>
        have Hr : Hid (wordB g (bl s) = false) := wordB_longer (fun h => by rw [inB_of ⟨by omega, by omega⟩] at h2; cases h2)
        go_wp2_with (go_at_call 61; refine (l00In_any _ _ _ _).mono ?_; rintro e w' ⟨rfl, rfl⟩)
        go_ret
        exact ⟨ret_bool Hr.out.symm, rfl⟩

theorem ascii_letters {g : Nat} {cs : ByteArray} (h : cs.data.toList = lettersL g) (j : Nat) (b : UInt8) (hb : cs.data.toList[j]? = some b) : b.toNat < 128 := by
  rw [h] at hb
  have h1 : b ∈ lettersL g := List.mem_of_getElem? hb
  have h2 : b ∈ ([97, 98, 99, 100] : List UInt8) := List.mem_of_mem_take h1
  simp at h2
  rcases h2 with rfl | rfl | rfl | rfl <;> decide
theorem letters_size {g : Nat} {cs : ByteArray} (h : cs.data.toList = lettersL g) : cs.size ≤ 4 := by
  have := congrArg List.length h
  simp [lettersL] at this
  have h2 : cs.size = cs.data.size := rfl
  omega
/-- A text of which nothing is left but letters. -/
theorem trim_any (g : Nat) (s cs : ByteArray) (hs : s.size ≤ 1048576) (hcs : cs.data.toList = lettersL g) (w : World) :
    Calls Tryd.prog 80 #[.string s, .string cs] w fun e w' => (∃ u : ByteArray, e = .returned (.string u) ∧ (u.size = 0 ↔ ∀ b ∈ bl s, (lettersL g).contains b = true)) ∧ Below w.heap.size w w' := by
  have := letters_size hcs
  refine (Any.strings_Trim_laid Tryd.lays160 (by kernel_rfl) s cs w (by omega) (by omega) (ascii_letters hcs)).mono ?_
  rintro e w' ⟨rfl, hb⟩
  refine ⟨⟨_, rfl, ?_⟩, hb⟩
  rw [← trimS_nil, ← hcs]
  show (Lib.trimS (bl s) cs.data.toList).length = 0 ↔ _
  rw [List.length_eq_zero_iff]
theorem trim_word {g : Nat} (hg2 : 2 ≤ g) (hg4 : g ≤ 4) {s : ByteArray} (h1 : 1 ≤ s.size) (h8 : s.size ≤ 8) : (∀ b ∈ bl s, (lettersL g).contains b = true) ↔ wordB g (bl s) = true := by
  rw [wordB_iff]
  constructor
  · intro h
    exact ⟨by rw [bl_length]; exact h1, by rw [bl_length]; exact h8, fun b hb => (lettersL_mem hg2 hg4 b).1 (h b hb)⟩
  · intro h b hb
    exact (lettersL_mem hg2 hg4 b).2 (h.2.2 b hb)

/-- All texts are words. -/
def allWords (g : Nat) (ss : List ByteArray) : Bool := ss.all fun s => wordB g (bl s)
theorem allWords_yes {g : Nat} {ss : List ByteArray} (h : ∀ i (hi : i < ss.length), wordB g (bl ss[i]) = true) : allWords g ss = true := by
  unfold allWords
  rw [List.all_eq_true]
  intro s hs
  obtain ⟨i, hi, rfl⟩ := List.getElem_of_mem hs
  exact h i hi
theorem allWords_no {g : Nat} {ss : List ByteArray} (i : Nat) (hi : i < ss.length) (h : wordB g (bl ss[i]) = false) : allWords g ss = false := by
  unfold allWords
  rw [List.all_eq_false]
  exact ⟨ss[i], List.getElem_mem _, by rw [h]; simp⟩
theorem allWords_at {g : Nat} {ss : List ByteArray} (h : allWords g ss = true) (i : Nat) (hi : i < ss.length) : wordB g (bl ss[i]) = true := by
  unfold allWords at h
  rw [List.all_eq_true] at h
  exact h _ (List.getElem_mem _)

set_option maxRecDepth 100000 in
set_option maxHeartbeats 2000000 in
theorem areWords_any (g : Nat) (hg : g = 2 ∨ g = 3 ∨ g = 4) (a : Option Addr) (ss : List ByteArray) (n ca : Nat) (w : World) (hn : Hid (ss.length = n)) (ha : RS w a ss) (hmax : n ≤ 1048576) (hsz : Hid (∀ s ∈ ss, s.size ≤ 1048576)) :
    Calls Tryd.prog 45 #[.int .i64 (g : Int), .slice a n ca] w fun e w' => e = .returned (.bool (allWords g ss)) ∧ Below w.heap.size w w' := by
  by_cases hz : n = 0
  · have HZ := Lib.hid hz
    clear hz
    have HR : Hid (allWords g ss = true) := allWords_yes (fun k hk => by rw [hn.out, HZ.out] at hk; omega)
    go_enter Tryd.func45, Tryd.ntmps45
    go_wp2_with fail
    go_loop [9] (fun i => ∃ k : Nat, k ≤ n ∧ i = .int .i64 k) (fun _ => 0)
    case atStart => exact ⟨0, by omega, rfl⟩
    case round =>
      obtain ⟨k, hk, rfl⟩ := hrel
      have hlt : ¬ k < n := by rw [HZ.out]; omega
      go_wp2
      go_ret
      exact ⟨ret_bool HR.out.symm, Below.refl _ _⟩
  · obtain ⟨b, off, rfl, hb, hc⟩ := ha.addr (by rw [hn.out]; omega)
    have HC := Lib.hid hc
    clear hc ha
    go_enter Tryd.func45, Tryd.ntmps45
    go_wp2_with fail
    go_loopw [9] (fun i wr => ∃ k : Nat, k ≤ n ∧ i = .int .i64 k ∧ Below w.heap.size w wr ∧ ∀ j (h : j < ss.length), j < k → wordB g (bl ss[j]) = true) (fun i _ => n - (intOf i).toNat)
    case atStart => exact ⟨0, by omega, rfl, Below.refl _ _, fun j _ hj => by omega⟩
    case round =>
      obtain ⟨k, hk, rfl, hbel, hall⟩ := hrel
      have HALL := Lib.hid hall
      clear hall
      by_cases hlt : k < n
      · have hka : k < ss.length := by rw [hn.out]; exact hlt
        have x1 := HC.out k hka
        have HST : Hid (wordB g (bl ss[k]) = true → ∀ j (h : j < ss.length), j < k + 1 → wordB g (bl ss[j]) = true) := fun ht j h hj => if e : j = k then (by subst e; exact ht) else HALL.out j h (by omega)
        have HBAD : Hid (wordB g (bl ss[k]) = false → allWords g ss = false) := fun h => allWords_no k hka h
        have hsk := hsz.out ss[k] (List.getElem_mem _)
        generalize ss[k] = t at x1 HST HBAD hsk
        rw [← hbel.cell (p := ⟨_, _, none⟩) hb] at x1
        have hk0 : (0 : Int) ≤ (k : Int) := by omega
        have hk1 : (k : Int) < (n : Int) := by omega
        have HB := Lib.hid hbel
        clear hbel
        by_cases z0 : t.size = 0
        · have he := toListE_nil z0
          have HR := Lib.hid (HBAD.out (wordB_longer (fun h => by omega)))
          go_wp2
          go_ret
          exact ⟨ret_bool HR.out.symm, HB.out⟩
        · have he := toListE_some z0
          by_cases z8 : 8 < t.size
          · have HR := Lib.hid (HBAD.out (wordB_longer (fun h => by omega)))
            go_wp2
            go_ret
            exact ⟨ret_bool HR.out.symm, HB.out⟩
          · have HTW := Lib.hid (trim_word (g := g) (by omega) (by omega) (s := t) (by omega) (by omega))
            rcases hg with rfl | rfl | rfl
            · go_wp2_with fail
              refine (trim_any 2 t _ hsk (by decide +kernel) _).mono ?_
              rintro e w1 ⟨⟨u, rfl, hu⟩, hb1⟩
              have HB1 : Hid (Below w.heap.size w w1) := HB.out.trans (hb1.mono HB.out.size)
              have HU := Lib.hid hu
              clear hb1 hu
              by_cases u0 : u.size = 0
              · have hue := toListE_nil u0
                have HW := Lib.hid (HTW.out.1 (HU.out.1 u0))
                go_wp2
                go_roundw
                case rel => first | exact ⟨k + 1, by omega, by go_num, HB1.out, HST.out HW.out⟩ | ((repeat apply Exists.intro); exact ⟨⟨k + 1, by omega, by go_num, HB1.out, HST.out HW.out⟩, rfl⟩)
                case measure => simp [intOf]; omega
              · have hue := toListE_some u0
                have HR : Hid (allWords _ ss = false) := HBAD.out (by
                  cases h : wordB _ (bl t) with
                  | false => rfl
                  | true => exact absurd (HU.out.2 (HTW.out.2 h)) u0)
                go_wp2
                go_ret
                exact ⟨ret_bool HR.out.symm, HB1.out⟩
            · go_wp2_with fail
              refine (trim_any 3 t _ hsk (by decide +kernel) _).mono ?_
              rintro e w1 ⟨⟨u, rfl, hu⟩, hb1⟩
              have HB1 : Hid (Below w.heap.size w w1) := HB.out.trans (hb1.mono HB.out.size)
              have HU := Lib.hid hu
              clear hb1 hu
              by_cases u0 : u.size = 0
              · have hue := toListE_nil u0
                have HW := Lib.hid (HTW.out.1 (HU.out.1 u0))
                go_wp2
                go_roundw
                case rel => first | exact ⟨k + 1, by omega, by go_num, HB1.out, HST.out HW.out⟩ | ((repeat apply Exists.intro); exact ⟨⟨k + 1, by omega, by go_num, HB1.out, HST.out HW.out⟩, rfl⟩)
                case measure => simp [intOf]; omega
              · have hue := toListE_some u0
                have HR : Hid (allWords _ ss = false) := HBAD.out (by
                  cases h : wordB _ (bl t) with
                  | false => rfl
                  | true => exact absurd (HU.out.2 (HTW.out.2 h)) u0)
                go_wp2
                go_ret
                exact ⟨ret_bool HR.out.symm, HB1.out⟩
            · go_wp2_with fail
              refine (trim_any 4 t _ hsk (by decide +kernel) _).mono ?_
              rintro e w1 ⟨⟨u, rfl, hu⟩, hb1⟩
              have HB1 : Hid (Below w.heap.size w w1) := HB.out.trans (hb1.mono HB.out.size)
              have HU := Lib.hid hu
              clear hb1 hu
              by_cases u0 : u.size = 0
              · have hue := toListE_nil u0
                have HW := Lib.hid (HTW.out.1 (HU.out.1 u0))
                go_wp2
                go_roundw
                case rel => first | exact ⟨k + 1, by omega, by go_num, HB1.out, HST.out HW.out⟩ | ((repeat apply Exists.intro); exact ⟨⟨k + 1, by omega, by go_num, HB1.out, HST.out HW.out⟩, rfl⟩)
                case measure => simp [intOf]; omega
              · have hue := toListE_some u0
                have HR : Hid (allWords _ ss = false) := HBAD.out (by
                  cases h : wordB _ (bl t) with
                  | false => rfl
                  | true => exact absurd (HU.out.2 (HTW.out.2 h)) u0)
                go_wp2
                go_ret
                exact ⟨ret_bool HR.out.symm, HB1.out⟩
      · have HR : Hid (allWords g ss = true) := allWords_yes (fun i hi => HALL.out i hi (by rw [hn.out] at hi; omega))
        go_wp2
        go_ret
        exact ⟨ret_bool HR.out.symm, hbel⟩
end Go.Proofs.YtpkkibnpjhlfmaaDoor
