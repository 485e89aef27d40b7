/-
  Rooms: the program's walks: isOf, freePlaces, ValidRooms, checkRooms, FreePlaces.
-/
import Derived.Test.YtkfeihnapcfkgaaDoorRooms
import Derived.Lib.MinMax
namespace Go.Proofs.YtkfeihnapcfkgaaDoor
open Go.RowKit

set_option maxHeartbeats 1000000 in
theorem isOf_any (t1 t2 : Int) (n : Nat) (w : World) (hn : n ≤ 1048576) : Calls Tryd.prog 95 #[.agg #[.int .i64 t1, .int .i64 t2], .int .i64 n] w fun e w' => e = .returned (.bool (gB n (t1, t2))) ∧ Below w.heap.size w w' := by
  cases h1 : inB t1 (-1) ((n : Int) - 1) with
  | false =>
    have HR : Hid (gB n (t1, t2) = false) := by unfold Hid gB; rw [h1]; rfl
    go_enter Tryd.func95, Tryd.ntmps95
    go_wp2_with (go_at_call 87; refine (isWithin_any _ _ _ _).mono ?_; rintro e w' ⟨rfl, rfl⟩)
    go_ret
    exact ⟨ret_bool HR.out.symm, (by repeat (first | exact Below.refl _ _ | refine Below.alloc ?_ (by simp; try omega) _ | refine Below.setCell ?_ (by simp; try omega) _))⟩
  | true =>
    have HR : Hid (gB n (t1, t2) = inB t2 (-1) ((n : Int) - 1)) := by unfold Hid gB; rw [h1]; rfl
    go_enter Tryd.func95, Tryd.ntmps95
    go_wp2_with (go_at_call 87; refine (isWithin_any _ _ _ _).mono ?_; rintro e w' ⟨rfl, rfl⟩)
    go_ret
    exact ⟨ret_bool HR.out.symm, (by repeat (first | exact Below.refl _ _ | refine Below.alloc ?_ (by simp; try omega) _ | refine Below.setCell ?_ (by simp; try omega) _))⟩

set_option maxHeartbeats 4000000 in
theorem freePlaces_any (bb ob : Nat) (a : Option Addr) (l : List Int) (ts : List TGuest) (n m c d : Nat) (w : World) (hn : Hid (l.length = n)) (hm : Hid (ts.length = m)) (hl : RI w (some ⟨bb, ob, none⟩) l) (ha : RR 2 cGuest w a ts) (hn0 : 0 < n) (hsn : n ≤ 1048576) (hsm : m ≤ 1048576) (hp : Pl l) (hg : guB n ts = true) :
    Calls Tryd.prog 44 #[.slice (some ⟨bb, ob, none⟩) n c, .slice a m d] w (GivesO 2 (freeAt l ts m) n w) := by
  have OW := clone_any (some ⟨bb, ob, none⟩) c n l w hn hn0 hsn hl
  have HA : Hid (∀ w', Below w.heap.size w w' → RR 2 cGuest w' a ts) := fun w' h => ha.below h
  have HP := Lib.hid hp
  have HGU := Lib.hid hg
  clear ha hl hp hg
  go_enter Tryd.func44, Tryd.ntmps44
  go_wp2_with fail
  refine OW.mono ?_
  rintro e w1 ⟨g, cap, rfl, hb1, ho1⟩
  have HG : Hid (w.heap.size ≤ g) := own_ge ho1
  have HB1 := Lib.hid hb1
  have HO1 := Lib.hid ho1
  clear hb1 ho1
  go_wp2_with fail
  go_loopw [12] (fun iv wr => ∃ (k : Nat) (fr : List Int), k ≤ m ∧ iv = .int .i64 k ∧ Hid (fr = freeAt l ts k) ∧ Hid (Below w.heap.size w wr) ∧ Hid (wr.ownsRow w.heap.size 2 1 (.slice (some ⟨g, 0, none⟩) n cap) n (fr.map (Value.int .i64)))) (fun iv _ => m - (intOf iv).toNat)
  case atStart => exact ⟨0, l, by omega, rfl, rfl, HB1, HO1⟩
  case round =>
    obtain ⟨k, fr, hk, rfl, HFR, HBEL, HOWN⟩ := hrel
    by_cases hlt : k < m
    · have hka : k < ts.length := by rw [hm.out]; exact hlt
      have HNX : Hid (freeAt l ts (k + 1) = stepF fr ts[k]) := by unfold Hid; rw [freeAt_succ l hka, ← HFR.out]
      have HFL : Hid (fr.length = n) := by unfold Hid; rw [HFR.out, freeAt_len]; exact hn.out
      have HFB : Hid (∀ i (hi : i < fr.length), -1048576 ≤ fr[i] ∧ fr[i] ≤ 4) := fun i hi => by
        have h := freeAt_bd HP.out ts k i (by rw [← HFR.out]; exact hi)
        have e : fr[i] = (freeAt l ts k)[i]'(by rw [← HFR.out]; exact hi) := by congr 1
        omega
      obtain ⟨⟨b1, b2⟩, _⟩ := guB_at HGU.out k hka
      obtain ⟨b, off, rfl, hbl, hc⟩ := (HA.out _ (Below.refl _ _)).at_ k hka
      have x0 := hc 0 _ rfl
      have x1 := hc 1 _ rfl
      simp only [Nat.add_zero] at x0
      clear hc
      generalize ts[k] = t at x0 x1 HNX b1 b2
      obtain ⟨t1, t2⟩ := t
      dsimp only at x0 x1 HNX b1 b2
      rw [← HBEL.out.cell (p := ⟨_, _, none⟩) hbl] at x0 x1
      have hk0 : (0 : Int) ≤ (k : Int) := by omega
      have hk1 : (k : Int) < (m : Int) := by omega
      have hws := HBEL.out.size
      have HOA : Hid (∀ o, (wr.alloc o).ownsRow w.heap.size 2 1 (.slice (some ⟨g, 0, none⟩) n cap) n (fr.map (Value.int .i64))) := fun o => HOWN.out.alloc _
      by_cases hout : t1 = -1
      · have HN2 : Hid (freeAt l ts (k + 1) = fr) := by unfold Hid; rw [HNX.out, stepF_out hout]
        subst hout
        go_wp2_with fail
        go_roundw
        case rel => exact ⟨k + 1, fr, by omega, by go_num, HN2.out.symm, (by repeat (first | exact HBEL.out | refine Below.alloc ?_ (by first | omega | (simp; done) | (simp; omega)) _ | refine Below.setCell ?_ (by first | omega | (simp; done) | (simp; omega)) _)), HOA.out _⟩
        case measure => simp [intOf]; omega
      · obtain ⟨r, rfl⟩ : ∃ r : Nat, t1 = r := ⟨t1.toNat, by omega⟩
        have hr : r < n := by omega
        have hrf : r < fr.length := by rw [HFL.out]; exact hr
        have HN2 : Hid (freeAt l ts (k + 1) = fr.set r (fr[r] - 1)) := by unfold Hid; rw [HNX.out, stepF_in rfl hrf]
        have hfb := HFB.out r hrf
        have y0 := ownsRow_cell (HOA.out (.cells #[.int .i64 r, .int .i64 t2] 35)) r _ (rflat_ints fr r hrf)
        have yz := ownsRow_frozen (HOA.out (.cells #[.int .i64 r, .int .i64 t2] 35)) r
        have HO2 : Hid (∀ o x, ((wr.setCell ⟨g, r, none⟩ (.int .i64 x)).alloc o).ownsRow w.heap.size 2 1 (.slice (some ⟨g, 0, none⟩) n cap) n ((fr.set r x).map (Value.int .i64))) := fun o x => by rw [← map_setI]; exact (ownsRow_set HOWN.out r _).alloc _
        have hgw0 := HG.out
        generalize fr[r] = x at hfb y0 HN2
        have hx : IntKind.i64.wrap (x - 1) = x - 1 := by rw [IntKind.wrap_i64]; omega
        have hgw := own_lt HOWN.out
        go_wp2_with fail
        go_roundw
        case rel => exact ⟨k + 1, fr.set r (x - 1), by omega, by go_num, HN2.out.symm, (by repeat (first | exact HBEL.out | refine Below.alloc ?_ (by first | omega | (simp; done) | (simp; omega)) _ | refine Below.setCell ?_ (by first | omega | (simp; done) | (simp; omega)) _)), HO2.out _ _⟩
        case measure => simp [intOf]; omega
    · have hkm : k = m := by omega
      subst hkm
      go_wp2
      go_ret
      exact ⟨g, cap, rfl, HBEL.out, by rw [← HFR.out]; exact HOWN.out⟩

/-- The least of the first numbers. -/
def minAt (l : List Int) : Nat → Int
  | 0 => l.getD 0 0
  | k + 1 => min (minAt l k) (l.getD k 0)
theorem minAt_spec {l : List Int} (k : Nat) (hk : 0 < k) (hl : k ≤ l.length) : (∃ i, ∃ h : i < k, l[i]'(by omega) = minAt l k) ∧ ∀ i (h : i < k), minAt l k ≤ l[i]'(by omega) := by
  induction k with
  | zero => omega
  | succ k ih =>
    have e : l.getD k 0 = l[k] := by rw [List.getD_eq_getElem?_getD, List.getElem?_eq_getElem (by omega), Option.getD_some]
    have e0 : minAt l (k + 1) = min (minAt l k) l[k] := by rw [minAt, e]
    by_cases h0 : k = 0
    · subst h0
      have e1 : minAt l 1 = l[0] := by rw [e0, minAt, e]; omega
      refine ⟨⟨0, by omega, e1.symm⟩, fun i hi => ?_⟩
      obtain rfl : i = 0 := by omega
      omega
    · obtain ⟨⟨i, hi, h1⟩, h2⟩ := ih (by omega) (by omega)
      by_cases hm : minAt l k ≤ l[k]
      · have : minAt l (k + 1) = minAt l k := by rw [e0]; omega
        rw [this]
        refine ⟨⟨i, by omega, h1⟩, fun j hj => ?_⟩
        by_cases ej : j = k
        · subst ej; exact hm
        · exact h2 j (by omega)
      · have : minAt l (k + 1) = l[k] := by rw [e0]; omega
        rw [this]
        refine ⟨⟨k, by omega, rfl⟩, fun j hj => ?_⟩
        by_cases ej : j = k
        · subst ej; omega
        · have := h2 j (by omega); omega
theorem minAt_ge {l : List Int} {n : Nat} (hn : l.length = n) (h0 : 0 < n) : decide (0 ≤ minAt l n) = geB l := by
  subst hn
  obtain ⟨⟨i, hi, h1⟩, h2⟩ := minAt_spec l.length h0 (Nat.le_refl _)
  cases hg : geB l with
  | true => exact decide_eq_true (by rw [← h1]; exact of_decide_eq_true (all_at (f := fun x => decide (0 ≤ x)) hg i hi))
  | false =>
    refine decide_eq_false fun h => ?_
    have : geB l = true := all_yes (f := fun x => decide (0 ≤ x)) (fun k hk => decide_eq_true (by have := h2 k hk; omega))
    rw [hg] at this
    exact absurd this (by decide)
theorem minAt_one (l : List Int) (h : 0 < l.length) : minAt l 1 = l[0] := by
  rw [minAt, minAt, List.getD_eq_getElem?_getD, List.getElem?_eq_getElem h, Option.getD_some]; omega
theorem minAt_succ {l : List Int} {k : Nat} (h : k < l.length) : minAt l (k + 1) = min (minAt l k) l[k] := by
  rw [minAt, List.getD_eq_getElem?_getD, List.getElem?_eq_getElem h, Option.getD_some]
set_option maxHeartbeats 1000000 in
theorem slicesMin_any (bb ob n c : Nat) (l : List Int) (w : World) (hn : Hid (l.length = n)) (h0 : 0 < n) (hl : RI w (some ⟨bb, ob, none⟩) l) (hs : n ≤ 1048576) :
    Calls Tryd.prog 96 #[.slice (some ⟨bb, ob, none⟩) n c] w fun e w' => e = .returned (.int .i64 (minAt l n)) ∧ w = w' := by
  have x0 := hl.addrI 0 (by rw [hn.out]; exact h0)
  rw [Nat.add_zero] at x0
  have HL := Lib.hid hl
  have H1 : Hid (minAt l 1 = l[0]'(by rw [hn.out]; exact h0)) := minAt_one l (by rw [hn.out]; exact h0)
  clear hl
  have hlt : ¬ ((n : Int) < 1) := by omega
  generalize l[0]'(by rw [hn.out]; exact h0) = x at x0 H1
  go_enter Tryd.func96, Tryd.ntmps96
  go_wp2
  go_loop [3, 4] (fun sv iv => ∃ k : Nat, 1 ≤ k ∧ k ≤ n ∧ iv = .int .i64 k ∧ sv = .int .i64 (minAt l k)) (fun _ iv => n - (intOf iv).toNat)
  case atStart => exact ⟨1, by omega, by omega, rfl, by rw [H1.out]⟩
  case round =>
    obtain ⟨k, hk1, hk, rfl, rfl⟩ := hrel
    by_cases hlt : k < n
    · have hka : k < l.length := by rw [hn.out]; exact hlt
      have y0 := HL.out.addrI k hka
      have HS := Lib.hid (minAt_succ hka)
      generalize l[k] = t at y0 HS
      generalize minAt l k = s at HS
      have hk0 : (0 : Int) ≤ (k : Int) := by omega
      have hk1 : (k : Int) < (n : Int) := by omega
      go_wp2
      go_round
      case rel => exact ⟨k + 1, by omega, by omega, by go_num, by rw [HS.out]⟩
      case measure => simp [intOf]; omega
    · have hkn : k = n := by omega
      subst hkn
      go_wp2
      go_ret
      exact ⟨rfl, rfl⟩
end Go.Proofs.YtkfeihnapcfkgaaDoor
