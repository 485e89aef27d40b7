/-
  The walks of the tests whether a word is far enough from others: the model's l05Near, the program's fits; and what a greedy code takes.
-/
import Derived.Test.YtpkkibnpjhlfmaaDoorAllAnswer
namespace Go.Proofs.YtpkkibnpjhlfmaaDoor
open Go.RowKit

/-- One of some texts is nearer to a text than a distance. -/
def nearB (ts : List ByteArray) (s : ByteArray) (d : Int) : Bool := ts.any fun t => decide (((farL (bl t) (bl s) : Nat) : Int) < d)
theorem nearB_yes {ts : List ByteArray} {s : ByteArray} {d : Int} (i : Nat) (hi : i < ts.length) (t : ByteArray) (e : ts[i] = t) (h : ((farL (bl t) (bl s) : Nat) : Int) < d) : nearB ts s d = true := by
  subst e
  unfold nearB
  rw [List.any_eq_true]
  exact ⟨_, List.getElem_mem hi, by simpa using h⟩
theorem nearB_no {ts : List ByteArray} {s : ByteArray} {d : Int} (h : ∀ i (hi : i < ts.length), d ≤ ((farL (bl ts[i]) (bl s) : Nat) : Int)) : nearB ts s d = false := by
  unfold nearB
  rw [List.any_eq_false]
  intro t ht
  obtain ⟨i, hi, rfl⟩ := List.getElem_of_mem ht
  have := h i hi
  simp; omega
/-- What has been taken of the first k words. -/
def grTo (d : Int) (all : List ByteArray) : Nat → List ByteArray
  | 0 => []
  | k + 1 => if nearB (grTo d all k) (all.getD k ByteArray.empty) d = true then grTo d all k else grTo d all k ++ [all.getD k ByteArray.empty]
theorem grTo_len (d : Int) (all : List ByteArray) (k : Nat) : (grTo d all k).length ≤ k := by
  induction k with
  | zero => exact Nat.le_refl _
  | succ k ih =>
    unfold grTo
    split
    · omega
    · rw [List.length_append]; simp; omega
theorem grTo_mem (d : Int) (all : List ByteArray) (k : Nat) (hk : k ≤ all.length) : ∀ s ∈ grTo d all k, s ∈ all := by
  induction k with
  | zero => intro s hs; cases hs
  | succ k ih =>
    intro s hs
    unfold grTo at hs
    have hm : all.getD k ByteArray.empty ∈ all := by
      rw [List.getD_eq_getElem?_getD, List.getElem?_eq_getElem (by omega)]; exact List.getElem_mem _
    split at hs
    · exact ih (by omega) s hs
    · rcases List.mem_append.1 hs with h | h
      · exact ih (by omega) s h
      · simp at h; subst h; exact hm
theorem grTo_near {d : Int} {all : List ByteArray} {k : Nat} {t : ByteArray} (hk : k < all.length) (e : all[k] = t) (h : nearB (grTo d all k) t d = true) : grTo d all (k + 1) = grTo d all k := by
  have e2 : all.getD k ByteArray.empty = t := by rw [List.getD_eq_getElem?_getD, List.getElem?_eq_getElem hk]; exact e
  show (if nearB (grTo d all k) (all.getD k ByteArray.empty) d = true then _ else _) = _
  rw [e2, if_pos h]
theorem grTo_far {d : Int} {all : List ByteArray} {k : Nat} {t : ByteArray} (hk : k < all.length) (e : all[k] = t) (h : nearB (grTo d all k) t d = false) : grTo d all (k + 1) = grTo d all k ++ [t] := by
  have e2 : all.getD k ByteArray.empty = t := by rw [List.getD_eq_getElem?_getD, List.getElem?_eq_getElem hk]; exact e
  show (if nearB (grTo d all k) (all.getD k ByteArray.empty) d = true then _ else _) = _
  rw [e2, if_neg (by rw [h]; simp)]

set_option maxRecDepth 100000 in
set_option maxHeartbeats 2000000 in
theorem l05Near_any (a : Option Addr) (ts : List ByteArray) (n ca : Nat) (s : ByteArray) (d : Int) (w : World) (hn : Hid (ts.length = n)) (ha : RS w a ts) (hmax : n ≤ 1048576) (hs8 : s.size ≤ 8) (HE : Hid (∀ t ∈ ts, t.size = s.size)) :
    Calls Tryd.prog 73 #[.slice a n ca, .string s, .int .i64 d] w fun e w' => e = .returned (.bool (nearB ts s d)) ∧ ∃ q, w' = w.drewN q := by
  by_cases hz : n = 0
  · have HZ := Lib.hid hz
    have HR : Hid (nearB ts s d = false) := nearB_no (fun i hi => by rw [hn.out, HZ.out] at hi; omega)
    clear hz ha
    go_enter Tryd.func73, Tryd.ntmps73
    go_wp2_with fail
    go_loop [7] (fun i => ∃ k : Nat, k ≤ n ∧ i = .int .i64 k) (fun _ => 0)
    case atStart => exact ⟨0, by omega, rfl⟩
    case round =>
      obtain ⟨k, hk, rfl⟩ := hrel
      have hlt : ¬ k < n := by rw [HZ.out]; omega
      go_wp2
      go_ret
      exact ⟨ret_bool HR.out.symm, 0, rfl⟩
  · obtain ⟨b, off, rfl, hb, hc⟩ := ha.addr (by rw [hn.out]; omega)
    have HC := Lib.hid hc
    clear hc ha
    go_enter Tryd.func73, Tryd.ntmps73
    go_wp2_with fail
    go_loopw [7] (fun iv wr => ∃ k q : Nat, k ≤ n ∧ iv = .int .i64 (k : Int) ∧ Hid (∀ i (hi : i < ts.length), i < k → d ≤ ((farL (bl ts[i]) (bl s) : Nat) : Int)) ∧ Hid (wr = w.drewN q)) (fun iv _ => n - (intOf iv).toNat)
    case atStart => exact ⟨0, 0, by omega, rfl, fun i _ h => by omega, rfl⟩
    case round =>
      obtain ⟨k, q, hk, rfl, HALL, HQ⟩ := hrel
      by_cases hlt : k < n
      · have hka : k < ts.length := by rw [hn.out]; exact hlt
        obtain ⟨t, ht⟩ : ∃ t, ts[k] = t := ⟨_, rfl⟩
        have HT := Lib.hid ht
        have hts : t.size = s.size := by rw [← ht]; exact HE.out _ (List.getElem_mem _)
        have x1 := HC.out k hka
        rw [ht] at x1
        have hw2 : ∀ p, wr.cell? p = w.cell? p := fun p => by rw [HQ.out]; exact World.cell?_drewN ..
        rw [← hw2] at x1
        clear hw2 ht
        have hf8 : farL (bl t) (bl s) ≤ 8 := by have := farL_le (bl t) (bl s); rw [bl_length] at this; omega
        have HF := fun W => l05Far_any t s hts (by omega) W
        have HYES : Hid (((farL (bl t) (bl s) : Nat) : Int) < d → nearB ts s d = true) := nearB_yes k hka t HT.out
        have HNX : Hid (¬ ((farL (bl t) (bl s) : Nat) : Int) < d → ∀ i (hi : i < ts.length), i < k + 1 → d ≤ ((farL (bl ts[i]) (bl s) : Nat) : Int)) := fun h i hi hik => if e : i = k then (by subst e; rw [HT.out]; omega) else HALL.out i hi (by omega)
        generalize ((farL (bl t) (bl s) : Nat) : Int) = f at HF HYES HNX
        have hk0 : (0 : Int) ≤ (k : Int) := by omega
        have hk1 : (k : Int) < (n : Int) := by omega
        by_cases hfd : f < d
        · have HR := Lib.hid (HYES.out hfd)
          go_wp2_with (first | (go_at_call 51; refine (HF _).mono ?_; rintro e w1 ⟨rfl, m, rfl⟩))
          go_ret
          exact ⟨ret_bool HR.out.symm, _, by rw [HQ.out]; exact World.drewN_drewN _ _ _⟩
        · have HN2 := Lib.hid (HNX.out hfd)
          go_wp2_with (first | (go_at_call 51; refine (HF _).mono ?_; rintro e w1 ⟨rfl, m, rfl⟩))
          go_roundw
          case rel => exact ⟨k + 1, _, by omega, by go_num, HN2.out, by unfold Hid; rw [HQ.out]; exact World.drewN_drewN _ _ _⟩
          case measure => simp [intOf]; omega
      · have HR : Hid (nearB ts s d = false) := nearB_no (fun i hi => HALL.out i hi (by rw [hn.out] at hi; omega))
        go_wp2
        go_ret
        exact ⟨ret_bool HR.out.symm, q, HQ.out⟩

set_option maxRecDepth 100000 in
set_option maxHeartbeats 2000000 in
theorem fits_any (g r d : Int) (a : Option Addr) (ts : List ByteArray) (n ca : Nat) (s : ByteArray) (w : World) (hn : Hid (ts.length = n)) (ha : RS w a ts) (hmax : n ≤ 1048576) (hs8 : s.size ≤ 8) (HE : Hid (∀ t ∈ ts, t.size = s.size)) :
    Calls Tryd.prog 70 #[.agg #[.int .i64 g, .int .i64 r, .int .i64 d], .string s, .slice a n ca] w fun e w' => e = .returned (.bool (!nearB ts s d)) ∧ Below w.heap.size w w' := by
  by_cases hz : n = 0
  · have HZ := Lib.hid hz
    have HR : Hid ((!nearB ts s d) = true) := by unfold Hid; rw [nearB_no (fun i hi => by rw [hn.out, HZ.out] at hi; omega)]; rfl
    clear hz ha
    go_enter Tryd.func70, Tryd.ntmps70
    go_wp2_with fail
    go_loopw [11] (fun i wr => ∃ k : Nat, k ≤ n ∧ i = .int .i64 k ∧ Hid (Below w.heap.size w wr)) (fun _ _ => 0)
    case atStart => exact ⟨0, by omega, rfl, (by repeat (first | exact Below.refl _ _ | refine Below.alloc ?_ (by simp; try omega) _ | refine Below.setCell ?_ (by simp; try omega) _))⟩
    case round =>
      obtain ⟨k, hk, rfl, HB⟩ := hrel
      have hlt : ¬ k < n := by rw [HZ.out]; omega
      go_wp2
      go_ret
      exact ⟨ret_bool HR.out.symm, HB.out⟩
  · obtain ⟨b, off, rfl, hb, hc⟩ := ha.addr (by rw [hn.out]; omega)
    have HC := Lib.hid hc
    clear hc ha
    go_enter Tryd.func70, Tryd.ntmps70
    go_wp2_with fail
    go_loopw [11] (fun iv wr => ∃ k : Nat, k ≤ n ∧ iv = .int .i64 (k : Int) ∧ Hid (∀ i (hi : i < ts.length), i < k → d ≤ ((farL (bl ts[i]) (bl s) : Nat) : Int)) ∧ Hid (Below w.heap.size w wr) ∧ Hid (wr.cell? ⟨w.heap.size, 2, none⟩ = some (.int .i64 d))) (fun iv _ => n - (intOf iv).toNat)
    case atStart => exact ⟨0, by omega, rfl, fun i _ h => by omega, (by repeat (first | exact Below.refl _ _ | refine Below.alloc ?_ (by simp; try omega) _ | refine Below.setCell ?_ (by simp; try omega) _)), by unfold Hid; simp [go_sem]⟩
    case round =>
      obtain ⟨k, hk, rfl, HALL, HB, HD⟩ := hrel
      by_cases hlt : k < n
      · have hka : k < ts.length := by rw [hn.out]; exact hlt
        obtain ⟨t, ht⟩ : ∃ t, ts[k] = t := ⟨_, rfl⟩
        have HT := Lib.hid ht
        have hts : t.size = s.size := by rw [← ht]; exact HE.out _ (List.getElem_mem _)
        have x1 := HC.out k hka
        rw [ht] at x1
        rw [← HB.out.cell (p := ⟨_, _, none⟩) hb] at x1
        have y1 := HD.out
        clear ht
        have hf8 : farL (bl t) (bl s) ≤ 8 := by have := farL_le (bl t) (bl s); rw [bl_length] at this; omega
        have HF := fun W => distanceOf_any s t hts.symm (by omega) W
        rw [farL_symm (by rw [bl_length, bl_length, hts])] at HF
        have HYES : Hid (((farL (bl t) (bl s) : Nat) : Int) < d → (!nearB ts s d) = false) := fun h => by rw [nearB_yes k hka t HT.out h]; rfl
        have HNX : Hid (¬ ((farL (bl t) (bl s) : Nat) : Int) < d → ∀ i (hi : i < ts.length), i < k + 1 → d ≤ ((farL (bl ts[i]) (bl s) : Nat) : Int)) := fun h i hi hik => if e : i = k then (by subst e; rw [HT.out]; omega) else HALL.out i hi (by omega)
        generalize ((farL (bl t) (bl s) : Nat) : Int) = f at HF HYES HNX
        have hk0 : (0 : Int) ≤ (k : Int) := by omega
        have hk1 : (k : Int) < (n : Int) := by omega
        by_cases hfd : f < d
        · have HR := Lib.hid (HYES.out hfd)
          go_wp2_with fail
          go_quiet (first | (go_at_call 56; refine Calls.quiet_of (HF _)))
          go_wp2
          go_ret
          exact ⟨ret_bool HR.out.symm, Below.drewN' HB.out _⟩
        · have HN2 := Lib.hid (HNX.out hfd)
          have HD2 := Lib.hid y1
          go_wp2_with fail
          go_quiet (first | (go_at_call 56; refine Calls.quiet_of (HF _)))
          go_wp2
          go_roundw
          case rel => exact ⟨k + 1, by omega, by go_num, HN2.out, Below.drewN' HB.out _, HD2.out⟩
          case measure => simp [intOf]; omega
      · have HR : Hid ((!nearB ts s d) = true) := by unfold Hid; rw [nearB_no (fun i hi => HALL.out i hi (by rw [hn.out] at hi; omega))]; rfl
        go_wp2
        go_ret
        exact ⟨ret_bool HR.out.symm, HB.out⟩

set_option maxRecDepth 100000 in
set_option maxHeartbeats 1000000 in
theorem l05Code_any (g r d : Int) (w : World) :
    Calls Tryd.prog 71 #[.int .i64 g, .int .i64 r, .int .i64 d] w fun e w' => e = .returned (.int .i64 (codeW g r d 300)) ∧ w = w' := by
  by_cases h1 : 2 ≤ g ∧ g ≤ 4
  · have i1 := inY h1
    by_cases h2 : 1 ≤ r ∧ r ≤ 8
    · have i2 := inY h2
      by_cases h3 : 1 ≤ d ∧ d ≤ r
      · have i3 := inY h3
        have HW := fun W => l05Whole_any g r W
        have HR : Hid (codeW g r 1 300 = codeW g r d 300) := by unfold Hid codeW; rw [if_pos (show 2 ≤ g ∧ g ≤ 4 ∧ 1 ≤ r ∧ r ≤ 8 ∧ 1 ≤ (1 : Int) ∧ 1 ≤ r by omega), if_pos (show 2 ≤ g ∧ g ≤ 4 ∧ 1 ≤ r ∧ r ≤ 8 ∧ 1 ≤ d ∧ d ≤ r by omega)]
        generalize codeW g r 1 300 = c at HW HR
        clear h1 h2 h3
        go_enter Tryd.func71, Tryd.ntmps71
        go_wp2_with (first | (go_at_call 83; refine (l05Signs_any _ _).mono ?_; rintro e w' ⟨rfl, rfl⟩) | (go_at_call 61; refine (l00In_any _ _ _ _).mono ?_; rintro e w' ⟨rfl, rfl⟩) | (go_at_call 78; refine (HW _).mono ?_; rintro e w' ⟨rfl, rfl⟩))
        go_ret
        exact ⟨ret_int HR.out, rfl⟩
      · have i3 := inN h3
        have HR := Lib.hid (codeW_range (most := 300) (show ¬ (2 ≤ g ∧ g ≤ 4 ∧ 1 ≤ r ∧ r ≤ 8 ∧ 1 ≤ d ∧ d ≤ r) by omega))
        clear h1 h2 h3
        go_enter Tryd.func71, Tryd.ntmps71
        go_wp2_with (first | (go_at_call 83; refine (l05Signs_any _ _).mono ?_; rintro e w' ⟨rfl, rfl⟩) | (go_at_call 61; refine (l00In_any _ _ _ _).mono ?_; rintro e w' ⟨rfl, rfl⟩))
        go_ret
        exact ⟨ret_int HR.out.symm, rfl⟩
    · have i2 := inN h2
      have HR := Lib.hid (codeW_range (most := 300) (show ¬ (2 ≤ g ∧ g ≤ 4 ∧ 1 ≤ r ∧ r ≤ 8 ∧ 1 ≤ d ∧ d ≤ r) by omega))
      clear h1 h2
      go_enter Tryd.func71, Tryd.ntmps71
      go_wp2_with (first | (go_at_call 83; refine (l05Signs_any _ _).mono ?_; rintro e w' ⟨rfl, rfl⟩) | (go_at_call 61; refine (l00In_any _ _ _ _).mono ?_; rintro e w' ⟨rfl, rfl⟩))
      go_ret
      exact ⟨ret_int HR.out.symm, rfl⟩
  · have i1 := inN h1
    have HR := Lib.hid (codeW_range (most := 300) (show ¬ (2 ≤ g ∧ g ≤ 4 ∧ 1 ≤ r ∧ r ≤ 8 ∧ 1 ≤ d ∧ d ≤ r) by omega))
    clear h1
    go_enter Tryd.func71, Tryd.ntmps71
    go_wp2_with (first | (go_at_call 83; refine (l05Signs_any _ _).mono ?_; rintro e w' ⟨rfl, rfl⟩) | (go_at_call 61; refine (l00In_any _ _ _ _).mono ?_; rintro e w' ⟨rfl, rfl⟩))
    go_ret
    exact ⟨ret_int HR.out.symm, rfl⟩
end Go.Proofs.YtpkkibnpjhlfmaaDoor
