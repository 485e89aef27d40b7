/-
  Rooms: the program's walks: ValidRooms, checkRooms, FreePlaces.
-/
import Derived.Test.YtkfeihnapcfkgaaDoorRoomsI
namespace Go.Proofs.YtkfeihnapcfkgaaDoor
open Go.RowKit

set_option maxHeartbeats 4000000 in
theorem valRooms_any (bb ob : Nat) (a : Option Addr) (l : List Int) (ts : List TGuest) (n m c d : Nat) (w : World) (hn : Hid (l.length = n)) (hm : Hid (ts.length = m)) (hl : RI w (some ⟨bb, ob, none⟩) l) (ha : RR 2 cGuest w a ts) (hsn : n ≤ 1048576) (hsm : m ≤ 1048576) :
    Calls Tryd.prog 78 #[.slice (some ⟨bb, ob, none⟩) n c, .slice a m d] w fun e w' => e = .returned (.bool (roB l ts)) ∧ Below w.heap.size w w' := by
  have HL : Hid (∀ W, Below w.heap.size w W → RI W (some ⟨bb, ob, none⟩) l) := fun W h => hl.below h
  have HA : Hid (∀ W, Below w.heap.size w W → RR 2 cGuest W a ts) := fun W h => ha.below h
  clear hl ha
  by_cases hr8 : 1 ≤ n ∧ n ≤ 8
  rotate_left
  · have HR : Hid (roB l ts = false) := roB_rooms (by rw [hn.out]; exact hr8)
    have hin : inB (n : Int) 1 8 = false := inB_no (by omega)
    go_enter Tryd.func78, Tryd.ntmps78
    go_wp2_with (go_at_call 87; refine (isWithin_any _ _ _ _).mono ?_; rintro e w' ⟨rfl, rfl⟩)
    go_ret
    exact ⟨ret_bool HR.out.symm, Below.refl _ _⟩
  have hin : inB (n : Int) 1 8 = true := inB_yes (by omega)
  by_cases hm8 : m ≤ 8
  rotate_left
  · have HR : Hid (roB l ts = false) := roB_many (by rw [hm.out]; exact hm8)
    go_enter Tryd.func78, Tryd.ntmps78
    go_wp2_with (go_at_call 87; refine (isWithin_any _ _ _ _).mono ?_; rintro e w' ⟨rfl, rfl⟩)
    go_ret
    exact ⟨ret_bool HR.out.symm, Below.refl _ _⟩
  go_enter Tryd.func78, Tryd.ntmps78
  go_wp2_with (go_at_call 87; refine (isWithin_any _ _ _ _).mono ?_; rintro e w' ⟨rfl, rfl⟩)
  go_loop [20] (fun i => ∃ k : Nat, k ≤ n ∧ i = .int .i64 k ∧ Hid (∀ j (h : j < l.length), j < k → inB l[j] 1 4 = true)) (fun i => n - (intOf i).toNat)
  case atStart => exact ⟨0, by omega, rfl, fun j _ hj => by omega⟩
  case round =>
    obtain ⟨k, hk, rfl, HALL⟩ := hrel
    by_cases hlt : k < n
    · have hka : k < l.length := by rw [hn.out]; exact hlt
      have x0 := (HL.out _ (Below.refl _ _)).addrI k hka
      have HBAD : Hid (inB l[k] 1 4 = false → roB l ts = false) := fun h => roB_places (all_no (f := fun x => inB x 1 4) k hka h)
      have HOK : Hid (inB l[k] 1 4 = true → ∀ j (h : j < l.length), j < k + 1 → inB l[j] 1 4 = true) := fun ht j h hj => if e : j = k then (by subst e; exact ht) else HALL.out j h (by omega)
      generalize l[k] = x at x0 HBAD HOK
      have hk0 : (0 : Int) ≤ (k : Int) := by omega
      have hk1 : (k : Int) < (n : Int) := by omega
      cases h1 : inB x 1 4 with
      | false =>
        have HR := Lib.hid (HBAD.out h1)
        clear HOK HBAD
        go_wp2_with (go_at_call 87; refine (isWithin_any _ _ _ _).mono ?_; rintro e w' ⟨rfl, rfl⟩)
        go_ret
        exact ⟨ret_bool HR.out.symm, Below.refl _ _⟩
      | true =>
        have HOK2 := Lib.hid (HOK.out h1)
        clear HOK HBAD
        go_wp2_with (go_at_call 87; refine (isWithin_any _ _ _ _).mono ?_; rintro e w' ⟨rfl, rfl⟩)
        go_round
        case rel => exact ⟨k + 1, by omega, by go_num, HOK2⟩
        case measure => simp [intOf]; omega
    · have HPL : Hid (Pl l) := fun j hj => inB_of (HALL.out j hj (by rw [hn.out] at hj; omega))
      clear HALL
      go_wp2
      go_loopw [30] (fun i wr => ∃ k : Nat, k ≤ m ∧ i = .int .i64 k ∧ Hid (Below w.heap.size w wr) ∧ Hid (∀ j (h : j < ts.length), j < k → gB n ts[j] = true)) (fun i _ => m - (intOf i).toNat)
      case atStart => exact ⟨0, by omega, rfl, Below.refl _ _, fun j _ hj => by omega⟩
      case round =>
        obtain ⟨j, hj, rfl, HBEL, HALL⟩ := hrel
        by_cases hlj : j < m
        · have hka : j < ts.length := by rw [hm.out]; exact hlj
          have HBAD : Hid (gB n ts[j] = false → roB l ts = false) := fun h => roB_guest (by rw [hn.out]; exact guB_bad hka h)
          have HOK : Hid (gB n ts[j] = true → ∀ i (h : i < ts.length), i < j + 1 → gB n ts[i] = true) := fun ht i h hi => if e : i = j then (by subst e; exact ht) else HALL.out i h (by omega)
          obtain ⟨b, off, rfl, hbl, hc⟩ := (HA.out _ HBEL.out).at_ j hka
          have x0 := hc 0 _ rfl
          have x1 := hc 1 _ rfl
          simp only [Nat.add_zero] at x0
          clear hc
          generalize ts[j] = t at x0 x1 HBAD HOK
          obtain ⟨t1, t2⟩ := t
          dsimp only at x0 x1 HBAD HOK
          have hk0 : (0 : Int) ≤ (j : Int) := by omega
          have hk1 : (j : Int) < (m : Int) := by omega
          have hws := HBEL.out.size
          have HIO := fun W => isOf_any t1 t2 n W hsn
          cases h1 : gB (n : Int) (t1, t2) with
          | false =>
            have HR := Lib.hid (HBAD.out h1)
            rw [h1] at HIO
            clear HOK HBAD
            go_wp2_with (go_at_call 95; refine (HIO _).mono ?_; rintro e w2 ⟨rfl, hb2⟩)
            go_ret
            exact ⟨ret_bool HR.out.symm, two_worlds (show Below w.heap.size w (wr.alloc _) from (by repeat (first | exact HBEL.out | refine Below.alloc ?_ (by first | omega | (simp; done) | (simp; omega)) _ | refine Below.setCell ?_ (by first | omega | (simp; done) | (simp; omega)) _))) hb2⟩
          | true =>
            have HOK2 := Lib.hid (HOK.out h1)
            rw [h1] at HIO
            clear HOK HBAD
            go_wp2_with (go_at_call 95; refine (HIO _).mono ?_; rintro e w2 ⟨rfl, hb2⟩)
            have HB2 : Hid (Below w.heap.size w w2) := two_worlds (show Below w.heap.size w (wr.alloc _) from (by repeat (first | exact HBEL.out | refine Below.alloc ?_ (by first | omega | (simp; done) | (simp; omega)) _ | refine Below.setCell ?_ (by first | omega | (simp; done) | (simp; omega)) _))) hb2
            clear hb2
            go_wp2
            go_roundw
            case rel => exact ⟨j + 1, by omega, by go_num, HB2, HOK2⟩
            case measure => simp [intOf]; omega
        · have HGU : Hid (guB n ts = true) := all_yes (f := gB n) (fun i hi => HALL.out i hi (by rw [hm.out] at hi; omega))
          have HR : Hid (roB l ts = decide (0 ≤ minAt (freeAt l ts m) n)) := by
            unfold Hid
            rw [roB_yes (by rw [hn.out]; exact hr8) (by rw [hm.out]; exact hm8) HPL.out (by rw [hn.out]; exact HGU.out), hm.out]
            exact (minAt_ge (by rw [freeAt_len]; exact hn.out) (by omega)).symm
          have HFL : Hid ((freeAt l ts m).length = n) := by unfold Hid; rw [freeAt_len]; exact hn.out
          have FP := freePlaces_any bb ob a l ts n m c d wr hn hm (HL.out _ HBEL.out) (HA.out _ HBEL.out) (by omega) hsn hsm HPL.out HGU.out
          have MI : Hid (∀ (g cap : Nat) (lo : Nat) (W : World), W.ownsRow lo 2 1 (.slice (some ⟨g, 0, none⟩) n cap) n ((freeAt l ts m).map (Value.int .i64)) → Calls Tryd.prog 96 #[.slice (some ⟨g, 0, none⟩) n cap] W fun e w' => e = .returned (.int .i64 (minAt (freeAt l ts m) n)) ∧ W = w') := fun g cap lo W h => slicesMin_any g 0 n cap _ W HFL (by omega) (rowI_RI HFL h) hsn
          clear HALL
          generalize minAt (freeAt l ts m) n = x at HR MI
          go_wp2_with (first | (go_at_call 44; refine FP.mono ?_; rintro e w2 ⟨g, cap, rfl, hb2, ho2⟩) | (go_at_call 96; refine (MI.out _ _ _ _ ho2).mono ?_; rintro e w3 ⟨rfl, rfl⟩))
          go_ret
          exact ⟨ret_bool HR.out.symm, two_worlds HBEL.out hb2⟩

theorem implValidRooms_any (w : World) {b0 o0 n0 c0 : Nat} (l0 : List Int) (hn0 : Hid (l0.length = n0)) (h0 : RI w (some ⟨b0, o0, none⟩) l0) (hs0 : n0 ≤ 1048576) (_wf0 : Hid (∀ k ∈ l0, (Lit.int .i64 k).wf = true)) {a1 : Option Addr} {n1 c1 : Nat} (ts1 : List TGuest) (hn1 : Hid (ts1.length = n1)) (h1 : RR 2 cGuest w a1 ts1) (hs1 : n1 ≤ 1048576) (_wf1 : Hid (∀ t ∈ ts1, wfGuest t)) :
    Calls Tryd.prog 78 #[.slice (some ⟨b0, o0, none⟩) n0 c0, .slice a1 n1 c1] w fun e w' => e = .returned (.bool (roB l0 ts1)) ∧ Below w.heap.size w w' :=
  valRooms_any b0 o0 a1 l0 ts1 n0 n1 c0 c1 w hn0 hn1 h0 h1 hs0 hs1

theorem checkRooms_any (bb ob : Nat) (a : Option Addr) (l : List Int) (ts : List TGuest) (n m c d : Nat) (w : World) (hn : Hid (l.length = n)) (hm : Hid (ts.length = m)) (hl : RI w (some ⟨bb, ob, none⟩) l) (ha : RR 2 cGuest w a ts) (hsn : n ≤ 1048576) (hsm : m ≤ 1048576) :
    Calls Tryd.prog 43 #[.slice (some ⟨bb, ob, none⟩) n c, .slice a m d] w fun e w' => e = .returned (.int .i64 (rcode l ts)) ∧ Below w.heap.size w w' := by
  have VR := valRooms_any bb ob a l ts n m c d w hn hm hl ha hsn hsm
  clear hl ha
  cases h : roB l ts with
  | false =>
    have HR : Hid (rcode l ts = 1) := by unfold Hid rcode; rw [h]; rfl
    rw [h] at VR
    go_enter Tryd.func43, Tryd.ntmps43
    go_wp2_with (go_at_call 78; refine VR.mono ?_; rintro e w' ⟨rfl, hb1⟩)
    go_ret
    exact ⟨ret_int HR.out.symm, hb1⟩
  | true =>
    have HR : Hid (rcode l ts = 0) := by unfold Hid rcode; rw [h]; rfl
    rw [h] at VR
    go_enter Tryd.func43, Tryd.ntmps43
    go_wp2_with (go_at_call 78; refine VR.mono ?_; rintro e w' ⟨rfl, hb1⟩)
    go_ret
    exact ⟨ret_int HR.out.symm, hb1⟩

theorem implFreePlaces_any (w : World) {b0 o0 n0 c0 : Nat} (l0 : List Int) (hn0 : Hid (l0.length = n0)) (h0 : RI w (some ⟨b0, o0, none⟩) l0) (hs0 : n0 ≤ 1048576) (_wf0 : Hid (∀ k ∈ l0, (Lit.int .i64 k).wf = true)) {a1 : Option Addr} {n1 c1 : Nat} (ts1 : List TGuest) (hn1 : Hid (ts1.length = n1)) (h1 : RR 2 cGuest w a1 ts1) (hs1 : n1 ≤ 1048576) (_wf1 : Hid (∀ t ∈ ts1, wfGuest t)) :
    Calls Tryd.prog 13 #[.slice (some ⟨b0, o0, none⟩) n0 c0, .slice a1 n1 c1] w (GivesIs 2 (freeOf l0 ts1) w) := by
  have OK := checkRooms_any b0 o0 a1 l0 ts1 n0 n1 c0 c1 w hn0 hn1 h0 h1 hs0 hs1
  have FR : Hid (∀ W, Below w.heap.size w W → 0 < n0 → Pl l0 → guB n0 ts1 = true → Calls Tryd.prog 44 #[.slice (some ⟨b0, o0, none⟩) n0 c0, .slice a1 n1 c1] W (GivesO 2 (freeAt l0 ts1 n1) n0 W)) := fun W h h2 hp hg => freePlaces_any b0 o0 a1 l0 ts1 n0 n1 c0 c1 W hn0 hn1 (h0.below h) (h1.below h) h2 hs0 hs1 hp hg
  clear h0 h1
  cases hv : roB l0 ts1 with
  | false =>
    have HC : rcode l0 ts1 = 1 := by unfold rcode; rw [hv]; rfl
    rw [HC] at OK
    have HR := Lib.hid (freeOf_bad hv)
    clear hv FR HC
    go_enter Tryd.func13, Tryd.ntmps13
    go_wp2_with (go_at_call 43; refine OK.mono ?_; rintro e w1 ⟨rfl, hb1⟩)
    go_ret2
    exact givesIs_nil HR.out hb1
  | true =>
    have HC : rcode l0 ts1 = 0 := by unfold rcode; rw [hv]; rfl
    rw [HC] at OK
    have HR : Hid (freeOf l0 ts1 = (freeAt l0 ts1 n1, 0)) := by unfold Hid; rw [freeOf_good hv, hn1.out]
    have HLN : Hid ((freeAt l0 ts1 n1).length = n0) := by unfold Hid; rw [freeAt_len]; exact hn0.out
    obtain ⟨h4, h2, h3, _⟩ := roB_of hv
    rw [hn0.out] at h3 h4
    have HP := Lib.hid h2
    have HG := Lib.hid h3
    have H0 : Hid (0 < n0) := by unfold Hid; omega
    clear hv h2 h3 h4 HC
    go_enter Tryd.func13, Tryd.ntmps13
    go_wp2_with (first | (go_at_call 43; refine OK.mono ?_; rintro e w1 ⟨rfl, hb1⟩) | (go_at_call 44; refine (FR.out _ hb1 H0.out HP.out HG.out).mono ?_; rintro e w2 ⟨g, cap, rfl, hb2, ho⟩))
    have HB2 := Lib.hid (two_worlds hb1 hb2)
    have HO := Lib.hid (own_lo ho hb1.size)
    clear hb1 hb2 ho
    go_wp2
    go_ret2
    exact givesIs_of HR.out HB2.out HLN.out HO.out
end Go.Proofs.YtkfeihnapcfkgaaDoor
