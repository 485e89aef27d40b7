/-
  Rooms: the model's walks: l10Free, l10Ok, ValidRooms, FreePlaces.
-/
import Derived.Test.YtkfeihnapcfkgaaDoorRoomBits
import Derived.Test.YtkfeihnapcfkgaaDoorCopies
namespace Go.Proofs.YtkfeihnapcfkgaaDoor
open Go.RowKit

theorem RI.addrI {w : World} {bb ob : Nat} {l : List Int} (h : RI w (some ⟨bb, ob, none⟩) l) : ∀ i (hi : i < l.length), w.cell? ⟨bb, ob + i, none⟩ = some (.int .i64 l[i]) := by
  rcases h with rfl | ⟨b, o, e, h⟩
  · intro i hi; simp at hi
  · injection e with e; injection e with e1 e2; subst e1 e2; exact h
set_option maxHeartbeats 1000000 in
theorem ownR_any (bb ob ca m : Nat) (l : List Int) (w : World) (hm : Hid (l.length = m)) (hm1 : m ≤ 1048576) (ha : RI w (some ⟨bb, ob, none⟩) l) :
    Calls Tryd.prog 92 #[.slice (some ⟨bb, ob, none⟩) m ca] w (GivesO 2 l m w) := by
  have HN : Hid (∀ w', Below w.heap.size w w' → ∀ j u, (l.map (Value.int .i64))[j]? = some u → w'.cell? ((⟨bb, ob, none⟩ : Addr).add j) = some u) := fun w' hb => news_ints ((ha.below hb).addrI)
  have HL : Hid ((l.map (Value.int .i64)).length = m * 1) := by unfold Hid; rw [List.length_map, hm.out]; omega
  have HF : Hid (∀ u ∈ l.map (Value.int .i64), u.oneCell' = true) := by
    intro u hu
    obtain ⟨x, _, rfl⟩ := List.mem_map.1 hu
    rfl
  have HI : Hid (∃ i0 : TypeInfo, Tryd.prog.info? 2 = some i0 ∧ i0.zero = some (.int .i64 0) ∧ i0.size = 1 ∧ i0.bytes = 8) := info_parts info2
  clear ha
  go_enter Tryd.func92, Tryd.ntmps92
  go_wp2_with (at_builtin; refine wpList_append_clone _ rfl _ _ 24 rfl w.heap.size 2 HI.out.choose (.int .i64 0) 1 8 Tryd.underlying24 HI.out.choose_spec.1 HI.out.choose_spec.2.1 HI.out.choose_spec.2.2.1 HI.out.choose_spec.2.2.2 rfl (by decide) w.heap.size rfl (World.ownsRow_made w #[] 0 (Nat.le_refl _) (by unfold maxLen; omega) rfl) ⟨bb, ob, none⟩ m ca _ rfl HL.out (HN.out _ ((Below.refl _ _).alloc (Nat.le_refl _) _)) HF.out (by unfold maxLen; omega) (by omega) (by simp) ?_)
  intro g cap w1 hown1 hgrow hat
  have HB : Hid (Below w.heap.size w w1) := ((Below.refl _ _).alloc (Nat.le_refl _) _).grown hgrow (by simp) (fun k hk => by simp at hk; omega)
  have HO := Lib.hid hown1
  clear hown1 hgrow hat
  go_wp2
  go_ret
  exact ⟨g, cap, rfl, HB.out, HO.out⟩
theorem map_setI (l : List Int) (r : Nat) (x : Int) : (l.map (Value.int .i64)).set r (.int .i64 x) = (l.set r x).map (Value.int .i64) := by rw [List.map_set]
/-- A call hands back the free places (where all guests are in rooms or outside) and whether all of them are 0 or more. -/
def GivesF (n : Nat) (ok : Bool) (l : List Int) (w : World) (e : Ending) (w' : World) : Prop :=
  Below w.heap.size w w' ∧ ∃ v, e = .returned (.tuple #[v, .bool (ok && geB l)]) ∧ (ok = true → ∃ g cap, v = .slice (some ⟨g, 0, none⟩) n cap ∧ w'.ownsRow w.heap.size 2 1 (.slice (some ⟨g, 0, none⟩) n cap) n (l.map (Value.int .i64)))
theorem own_lt {w : World} {lo : Nat} {e : TypeId} {size g n cap : Nat} {xs : List Value} (h : w.ownsRow lo e size (.slice (some ⟨g, 0, none⟩) n cap) n xs) : g < w.heap.size := (h.lt g rfl).2
theorem guB_bad {R : Int} {ts : List TGuest} {k : Nat} (hk : k < ts.length) (h : gB R ts[k] = false) : guB R ts = false := all_no (f := gB R) k hk h

set_option maxHeartbeats 4000000 in
theorem l10Free_any (bb ob : Nat) (a : Option Addr) (l : List Int) (ts : List TGuest) (n m c d : Nat) (w : World) (hn : Hid (l.length = n)) (hm : Hid (ts.length = m)) (hl : RI w (some ⟨bb, ob, none⟩) l) (ha : RR 2 cGuest w a ts) (hsn : n ≤ 1048576) (hsm : m ≤ 1048576) (hp : Pl l) :
    Calls Tryd.prog 77 #[.slice (some ⟨bb, ob, none⟩) n c, .slice a m d] w (GivesF n (guB n ts) (freeAt l ts m) w) := by
  have OW := ownR_any bb ob c n l w hn hsn hl
  have HA : Hid (∀ w', Below w.heap.size w w' → RR 2 cGuest w' a ts) := fun w' h => ha.below h
  have HP := Lib.hid hp
  clear ha hl hp
  go_enter Tryd.func77, Tryd.ntmps77
  go_wp2_with fail
  refine OW.mono ?_
  rintro e w1 ⟨g, cap, rfl, hb1, ho1⟩
  have HG : Hid (w.heap.size ≤ g) := own_ge ho1
  have HB1 := Lib.hid hb1
  have HO1 := Lib.hid ho1
  clear hb1 ho1
  go_wp2_with fail
  go_loopw [7, 8] (fun fv iv wr => ∃ (k : Nat) (fr : List Int), k ≤ m ∧ iv = .int .i64 k ∧ fv = .bool (geB fr) ∧ Hid (fr = freeAt l ts k) ∧ Hid (Below w.heap.size w wr) ∧ Hid (wr.ownsRow w.heap.size 2 1 (.slice (some ⟨g, 0, none⟩) n cap) n (fr.map (Value.int .i64))) ∧ Hid (∀ j (h : j < ts.length), j < k → gB n ts[j] = true)) (fun _ iv _ => m - (intOf iv).toNat)
  case atStart => exact ⟨0, l, by omega, rfl, by rw [geB_pl HP.out], rfl, HB1, HO1, fun j _ hj => by omega⟩
  case round =>
    obtain ⟨k, fr, hk, rfl, rfl, HFR, HBEL, HOWN, HALL⟩ := hrel
    by_cases hlt : k < m
    · have hka : k < ts.length := by rw [hm.out]; exact hlt
      have HBAD : Hid (gB n ts[k] = false → guB n ts = false) := fun h => guB_bad hka h
      have HOK : Hid (gB n ts[k] = true → ∀ j (h : j < ts.length), j < k + 1 → gB n ts[j] = true) := fun ht j h hj => if e : j = k then (by subst e; exact ht) else HALL.out j h (by omega)
      have HNX : Hid (freeAt l ts (k + 1) = stepF fr ts[k]) := by unfold Hid; rw [freeAt_succ l hka, ← HFR.out]
      have HFL : Hid (fr.length = n) := by unfold Hid; rw [HFR.out, freeAt_len]; exact hn.out
      have HFB : Hid (∀ i (hi : i < fr.length), -1048576 ≤ fr[i] ∧ fr[i] ≤ 4) := fun i hi => by
        have h := freeAt_bd HP.out ts k i (by rw [← HFR.out]; exact hi)
        have e : fr[i] = (freeAt l ts k)[i]'(by rw [← HFR.out]; exact hi) := by congr 1
        omega
      obtain ⟨b, off, rfl, hbl, hc⟩ := (HA.out _ (Below.refl _ _)).at_ k hka
      have x0 := hc 0 _ rfl
      have x1 := hc 1 _ rfl
      simp only [Nat.add_zero] at x0
      clear hc
      generalize ts[k] = t at x0 x1 HBAD HOK HNX
      have HX0 := Lib.hid x0
      rw [← HBEL.out.cell (p := ⟨_, _, none⟩) hbl] at x0 x1
      obtain ⟨t1, t2⟩ := t
      dsimp only at x0 x1 HBAD HOK HNX
      have hk0 : (0 : Int) ≤ (k : Int) := by omega
      have hk1 : (k : Int) < (m : Int) := by omega
      have hws := HBEL.out.size
      cases h1 : inB t1 (-1) ((n : Int) - 1) with
      | false =>
        have HR := Lib.hid (HBAD.out (by unfold gB; rw [h1]; rfl))
        go_wp2_with (go_at_call 59; refine (l00In_any _ _ _ _).mono ?_; rintro e w' ⟨rfl, rfl⟩)
        go_ret2
        exact ⟨HBEL.out, _, by rw [HR.out]; rfl, fun h => by rw [HR.out] at h; exact absurd h (by decide)⟩
      | true =>
        cases h2 : inB t2 (-1) ((n : Int) - 1) with
        | false =>
          have HR := Lib.hid (HBAD.out (by unfold gB; rw [h1, h2]; rfl))
          go_wp2_with (go_at_call 59; refine (l00In_any _ _ _ _).mono ?_; rintro e w' ⟨rfl, rfl⟩)
          go_ret2
          exact ⟨HBEL.out, _, by rw [HR.out]; rfl, fun h => by rw [HR.out] at h; exact absurd h (by decide)⟩
        | true =>
          have HOK2 := Lib.hid (HOK.out (by unfold gB; rw [h1, h2]; rfl))
          obtain ⟨b1, b2⟩ := inB_of h1
          clear HBAD HOK
          by_cases hout : t1 = -1
          · have HN2 : Hid (freeAt l ts (k + 1) = fr) := by unfold Hid; rw [HNX.out, stepF_out hout]
            subst hout
            cases hge : geB fr with
            | false =>
              go_wp2_with (go_at_call 59; refine (l00In_any _ _ _ _).mono ?_; rintro e w' ⟨rfl, rfl⟩)
              go_roundw
              case rel => exact ⟨k + 1, fr, by omega, by go_num, by rw [hge], by unfold Hid; rw [HN2.out], HBEL, HOWN, HOK2⟩
              case measure => simp [intOf]; omega
            | true =>
              go_wp2_with (go_at_call 59; refine (l00In_any _ _ _ _).mono ?_; rintro e w' ⟨rfl, rfl⟩)
              go_roundw
              case rel => exact ⟨k + 1, fr, by omega, by go_num, by rw [hge], by unfold Hid; rw [HN2.out], HBEL, HOWN, HOK2⟩
              case measure => simp [intOf]; omega
          · obtain ⟨r, rfl⟩ : ∃ r : Nat, t1 = r := ⟨t1.toNat, by omega⟩
            have hr : r < n := by omega
            have hrf : r < fr.length := by rw [HFL.out]; exact hr
            have HN2 : Hid (freeAt l ts (k + 1) = fr.set r (fr[r] - 1)) := by unfold Hid; rw [HNX.out, stepF_in rfl hrf]
            have HGE : Hid (geB (fr.set r (fr[r] - 1)) = (geB fr && decide (0 ≤ fr[r] - 1))) := by
              have := geB_in (fr := fr) (t := ((r : Int), t2)) rfl hrf
              rw [stepF_in rfl hrf] at this
              exact this
            have hfb := HFB.out r hrf
            have y0 := ownsRow_cell HOWN.out r _ (rflat_ints fr r hrf)
            have yz := ownsRow_frozen HOWN.out r
            have HO2 : Hid (∀ x, (wr.setCell ⟨g, r, none⟩ (.int .i64 x)).ownsRow w.heap.size 2 1 (.slice (some ⟨g, 0, none⟩) n cap) n ((fr.set r x).map (Value.int .i64))) := fun x => by rw [← map_setI]; exact ownsRow_set HOWN.out r _
            generalize fr[r] = x at hfb y0 HGE HN2
            have hx : IntKind.i64.wrap (x - 1) = x - 1 := by rw [IntKind.wrap_i64]; omega
            have hb3 : Below w.heap.size w (wr.setCell ⟨g, r, none⟩ (.int .i64 (x - 1))) := HBEL.out.setCell HG.out _
            have z0 := (hb3.cell (p := ⟨b, off + k * 2, none⟩) hbl).trans HX0.out
            have z1 := ownsRow_cell (HO2.out (x - 1)) r (.int .i64 (x - 1)) (by rw [rflat_ints _ r (by rw [List.length_set]; exact hrf), List.getElem_set_self])
            have HB3 := Lib.hid hb3
            clear hb3
            have HE : Hid (∀ b0 : Bool, b0 = geB fr → (b0 && decide (1 ≤ x)) = geB (fr.set r (x - 1))) := fun b0 h => by rw [HGE.out, h, show decide (1 ≤ x) = decide (0 ≤ x - 1) from decide_eq_decide.2 (by omega)]
            clear HGE
            cases hge : geB fr with
            | false =>
              have HE2 := Lib.hid (HE.out false hge.symm)
              clear hge HE
              go_wp2_with (go_at_call 59; refine (l00In_any _ _ _ _).mono ?_; rintro e w' ⟨rfl, rfl⟩)
              go_roundw
              case rel => exact ⟨k + 1, fr.set r (x - 1), by omega, by go_num, by rw [← HE2.out]; rfl, HN2.out.symm, HB3, HO2.out _, HOK2⟩
              case measure => simp [intOf]; omega
            | true =>
              have HE2 := Lib.hid (HE.out true hge.symm)
              clear hge HE
              go_wp2_with (go_at_call 59; refine (l00In_any _ _ _ _).mono ?_; rintro e w' ⟨rfl, rfl⟩)
              go_roundw
              case rel => exact ⟨k + 1, fr.set r (x - 1), by omega, by go_num, by rw [← HE2.out]; rfl, HN2.out.symm, HB3, HO2.out _, HOK2⟩
              case measure => simp [intOf]; omega
    · have hkm : k = m := by omega
      subst hkm
      have HALLT : Hid (guB n ts = true) := all_yes (f := gB n) (fun j hj => HALL.out j hj (by rw [hm.out] at hj; exact hj))
      go_wp2
      go_ret2
      exact ⟨HBEL.out, _, by rw [HALLT.out, ← HFR.out]; rfl, fun _ => ⟨g, cap, rfl, by rw [← HFR.out]; exact HOWN.out⟩⟩

set_option maxHeartbeats 2000000 in
theorem l10Ok_any (bb ob : Nat) (a : Option Addr) (l : List Int) (ts : List TGuest) (n m c d : Nat) (w : World) (hn : Hid (l.length = n)) (hm : Hid (ts.length = m)) (hl : RI w (some ⟨bb, ob, none⟩) l) (ha : RR 2 cGuest w a ts) (hsn : n ≤ 1048576) (hsm : m ≤ 1048576) :
    Calls Tryd.prog 58 #[.slice (some ⟨bb, ob, none⟩) n c, .slice a m d] w fun e w' => e = .returned (.bool (roB l ts)) ∧ Below w.heap.size w w' := by
  have FR : Hid (Pl l → Calls Tryd.prog 77 #[.slice (some ⟨bb, ob, none⟩) n c, .slice a m d] w (GivesF n (guB n ts) (freeAt l ts m) w)) := fun h => l10Free_any bb ob a l ts n m c d w hn hm hl ha hsn hsm h
  have HL := Lib.hid hl
  clear hl ha
  go_enter Tryd.func58, Tryd.ntmps58
  go_wp2
  go_loop [5] (fun i => ∃ k : Nat, k ≤ n ∧ i = .int .i64 k ∧ Hid (∀ j (h : j < l.length), j < k → inB l[j] 1 4 = true)) (fun i => n - (intOf i).toNat)
  case atStart => exact ⟨0, by omega, rfl, fun j _ hj => by omega⟩
  case round =>
    obtain ⟨k, hk, rfl, HALL⟩ := hrel
    by_cases hlt : k < n
    · have hka : k < l.length := by rw [hn.out]; exact hlt
      have x0 := HL.out.addrI k hka
      have HBAD : Hid (inB l[k] 1 4 = false → roB l ts = false) := fun h => roB_places (all_no (f := fun x => inB x 1 4) k hka h)
      have HOK : Hid (inB l[k] 1 4 = true → ∀ j (h : j < l.length), j < k + 1 → inB l[j] 1 4 = true) := fun ht j h hj => if e : j = k then (by subst e; exact ht) else HALL.out j h (by omega)
      generalize l[k] = x at x0 HBAD HOK
      have hk0 : (0 : Int) ≤ (k : Int) := by omega
      have hk1 : (k : Int) < (n : Int) := by omega
      cases h1 : inB x 1 4 with
      | false =>
        have HR := Lib.hid (HBAD.out h1)
        clear HOK HBAD
        go_wp2_with (go_at_call 59; refine (l00In_any _ _ _ _).mono ?_; rintro e w' ⟨rfl, rfl⟩)
        go_ret
        exact ⟨ret_bool HR.out.symm, Below.refl _ _⟩
      | true =>
        have HOK2 := Lib.hid (HOK.out h1)
        clear HOK HBAD
        go_wp2_with (go_at_call 59; refine (l00In_any _ _ _ _).mono ?_; rintro e w' ⟨rfl, rfl⟩)
        go_round
        case rel => exact ⟨k + 1, by omega, by go_num, HOK2⟩
        case measure => simp [intOf]; omega
    · have HPL : Hid (Pl l) := fun j hj => inB_of (HALL.out j hj (by rw [hn.out] at hj; omega))
      have SF : Calls Tryd.prog 77 #[.slice (some ⟨bb, ob, none⟩) n c, .slice a m d] w fun e w' => ∃ v, e = .returned (.tuple #[v, .bool (guB n ts && geB (freeAt l ts m))]) ∧ Below w.heap.size w w' := (FR.out HPL.out).mono fun e w' h => ⟨h.2.choose, h.2.choose_spec.1, h.1⟩
      have HF0 : Hid ((guB n ts && geB (freeAt l ts m)) = false → roB l ts = false) := fun h => by
        unfold roB
        rw [hn.out, hm.out, h]
        simp
      have HF1 : Hid ((guB n ts && geB (freeAt l ts m)) = true → roB l ts = (inB (n : Int) 1 8 && decide (m ≤ 8))) := fun h => by
        unfold roB
        rw [hn.out, hm.out, h, plB_iff.2 HPL.out]
        simp
      clear HALL FR
      generalize (guB (n : Int) ts && geB (freeAt l ts m)) = b0 at SF HF0 HF1
      cases b0 with
      | false =>
        have HR := Lib.hid (HF0.out rfl)
        clear HF0 HF1
        go_wp2_with (go_at_call 77; refine SF.mono ?_; rintro e w1 ⟨v, rfl, hb1⟩)
        go_ret
        exact ⟨ret_bool HR.out.symm, hb1⟩
      | true =>
        have HR := Lib.hid (HF1.out rfl)
        clear HF0 HF1
        cases h1 : inB (n : Int) 1 8 with
        | false =>
          have HR2 : Hid (roB l ts = false) := by unfold Hid; rw [HR.out, h1]; rfl
          go_wp2_with (first | (go_at_call 77; refine SF.mono ?_; rintro e w1 ⟨v, rfl, hb1⟩) | (go_at_call 59; refine (l00In_any _ _ _ _).mono ?_; rintro e w' ⟨rfl, rfl⟩))
          go_ret
          exact ⟨ret_bool HR2.out.symm, hb1⟩
        | true =>
          have HR2 : Hid (roB l ts = decide ((m : Int) ≤ 8)) := by unfold Hid; rw [HR.out, h1, Bool.true_and]; exact decide_eq_decide.2 (by omega)
          go_wp2_with (first | (go_at_call 77; refine SF.mono ?_; rintro e w1 ⟨v, rfl, hb1⟩) | (go_at_call 59; refine (l00In_any _ _ _ _).mono ?_; rintro e w' ⟨rfl, rfl⟩))
          go_ret
          exact ⟨ret_bool HR2.out.symm, hb1⟩

end Go.Proofs.YtkfeihnapcfkgaaDoor
