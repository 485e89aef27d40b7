/-
  Guests that have been changed: the program's 'changed'.
-/
import Derived.Test.YtkfeihnapcfkgaaDoorRoomsP
namespace Go.Proofs.YtkfeihnapcfkgaaDoor
open Go.RowKit

theorem row_setCell_lo {lo hi : Nat} {e : TypeId} {size n : Nat} {v : Value} {xs : List Value} {w : World} (h : Row lo hi e size v n xs w) {b o : Nat} (hb : b < lo) (u : Value) : Row lo hi e size v n xs (w.setCell ⟨b, o, none⟩ u) :=
  ⟨ownsRow_setCell_other h.1 (by intro hk; have := h.2 _ hk; dsimp only at this; omega) u, h.2⟩
set_option maxHeartbeats 4000000 in
theorem changedGone_any (p : Nat → Bool) (bb ob m d : Nat) (ts : List TGuest) (w : World) (hm : Hid (ts.length = m)) (ha : RR 2 cGuest w (some ⟨bb, ob, none⟩) ts) (hm0 : 0 < m) (hm8 : m ≤ 8) (hT : BitTab w) :
    Calls Tryd.prog 55 #[.slice (some ⟨bb, ob, none⟩) m d, .int .u64 ((setN p m : Nat) : Int), .func (.func 57) #[] #[]] w (GivesC 35 2 ((chP goneG p ts).flatMap cGuest) m w) := by
  have HA : Hid (∀ W, Below w.heap.size w W → RR 2 cGuest W (some ⟨bb, ob, none⟩) ts) := fun W h => ha.below h
  have HL : Hid ((ts.flatMap cGuest).length = m * 2) := by unfold Hid; rw [rflat_length cGuest_len, hm.out]
  have HF := Lib.hid (guest_one ts)
  have HI : Hid (∃ i0 : TypeInfo, Tryd.prog.info? 35 = some i0 ∧ i0.zero = some (.agg #[.int .i64 0, .int .i64 0]) ∧ i0.size = 2 ∧ i0.bytes = 16) := info_parts info35
  have ME : Hid (∀ W, Below w.heap.size w W → Calls Tryd.prog 46 #[.int .u64 ((setN p m : Nat) : Int)] W fun e w' => Below W.heap.size W w' ∧ ∃ ao cap, e = .returned (.slice ao (filtN p m).length cap) ∧ w'.ownsRow W.heap.size 2 1 (.slice ao (filtN p m).length cap) (filtN p m).length ((filtN p m).map (Value.int .i64))) := fun W h => members_any p m W (by omega) (hT.below h)
  have HRES : Hid (chP goneG p ts = chM goneG (filtK p m) ts) := by unfold Hid chP; rw [hm.out]
  have HK : Hid (∀ k ∈ filtK p m, k < m) := fun k h => (filtK_lt h).1
  have HKL := filtN_len p m
  rw [filtN_K] at ME HKL
  rw [List.length_map] at HKL
  simp only [List.length_map] at ME
  clear ha hT
  generalize filtK p m = ks at ME HRES HK HKL
  generalize setN p m = x at ME
  go_enter Tryd.func55, Tryd.ntmps55
  go_wp2_with (at_builtin; refine wpList_append_new _ rfl _ _ 25 rfl 35 HI.out.choose (.agg #[.int .i64 0, .int .i64 0]) 2 16 Tryd.underlying25 HI.out.choose_spec.1 HI.out.choose_spec.2.1 HI.out.choose_spec.2.2.1 HI.out.choose_spec.2.2.2 rfl ⟨bb, ob, none⟩ rfl ⟨bb, ob, none⟩ m d _ rfl HL.out ((HA.out _ (Below.refl _ _)).addrR) HF.out hm0 (by unfold maxLen; omega) (by omega) ?_)
  intro cap w1 hown1 hb1
  have HB1 := Lib.hid hb1
  have HO1 := Lib.hid hown1
  have hgl := own_lt hown1
  clear hown1 hb1
  go_wp2_with fail
  refine (ME.out _ HB1.out).mono ?_
  rintro e w2 ⟨hb2, ao, cap2, rfl, ho2⟩
  have HB2 := Lib.hid (two_worlds HB1.out hb2)
  have HM2 := Lib.hid (Row.of ho2)
  have HO2 := Lib.hid ((Row.of HO1.out).below hb2).1
  clear hb2 ho2
  generalize hkl : ks.length = c at HM2 HKL
  have HC := Lib.hid hkl
  clear hkl
  go_wp2_with fail
  go_loopw [17] (fun iv wr => ∃ j : Nat, j ≤ c ∧ iv = .int .i64 (j : Int) ∧ Hid (Below w.heap.size w wr) ∧ Hid (wr.ownsRow w.heap.size 35 2 (.slice (some ⟨w.heap.size, 0, none⟩) m cap) m ((chM goneG (ks.take j) ts).flatMap cGuest)) ∧ Hid (Row w1.heap.size w2.heap.size 2 1 (.slice ao c cap2) c ((ks.map (fun (k : Nat) => (k : Int))).map (Value.int .i64)) wr)) (fun iv _ => c - (intOf iv).toNat)
  case atStart => exact ⟨0, by omega, rfl, HB2, HO2, HM2⟩
  case round =>
    obtain ⟨j, hj, rfl, HBEL, HOWN, HMEM⟩ := hrel
    by_cases hlt : j < c
    · have hjk : j < ks.length := by rw [HC.out]; exact hlt
      have hkm : ks[j] < m := HK.out _ (List.getElem_mem hjk)
      have hnx := chM_take goneG ks ts j hjk
      have hcl : (chM goneG (ks.take j) ts).length = m := by rw [chM_len]; exact hm.out
      obtain ⟨bm, om, rfl, hbm, xm⟩ := (rowI_RI (ns := ks.map (fun (k : Nat) => (k : Int))) (by unfold Hid; rw [List.length_map]; exact HC.out) HMEM.out.1).at_ j (by rw [List.length_map]; exact hjk)
      rw [List.getElem_map] at xm
      obtain ⟨k, hkd⟩ : ∃ k, k = ks[j] := ⟨_, rfl⟩
      rw [← hkd] at hkm hnx xm
      clear hkd
      obtain ⟨cur, hcur⟩ : ∃ cur, cur = chM goneG (ks.take j) ts := ⟨_, rfl⟩
      rw [← hcur] at hnx hcl
      have HOWN1 : Hid (wr.ownsRow w.heap.size 35 2 (.slice (some ⟨w.heap.size, 0, none⟩) m cap) m (cur.flatMap cGuest)) := by unfold Hid; rw [hcur]; exact HOWN.out
      clear hcur HOWN
      have hka : k < cur.length := by rw [hcl]; exact hkm
      obtain ⟨y0, y1, y2, y3⟩ := guest_cells HOWN1.out k hka
      have HST := Lib.hid (fun W h u => guest_store (W := W) (lo := w.heap.size) (g := w.heap.size) (n := m) (cap := cap) h k hka u)
      rw [List.getD_eq_getElem?_getD, List.getElem?_eq_getElem hka, Option.getD_some] at hnx
      have HNX := Lib.hid hnx
      have HLEN := Lib.hid hcl
      clear hcl hnx
      generalize cur[k] = t at y0 y1 HNX
      obtain ⟨t1, t2⟩ := t
      dsimp only at y0 y1
      have hk0 : (0 : Int) ≤ (k : Int) := by omega
      have hk1 : (k : Int) < (m : Int) := by omega
      have hj0 : (0 : Int) ≤ (j : Int) := by omega
      have hj1 : (j : Int) < (c : Int) := by omega
      go_wp2_with fail
      refine (gone_any t1 t2 _).mono ?_
      rintro e w3 ⟨rfl, hb3⟩
      have HB3 := Lib.hid (two_worlds HBEL.out hb3)
      have HO3 := Lib.hid ((Row.of HOWN1.out).below hb3).1
      have HM3 := Lib.hid (HMEM.out.below hb3)
      have z0 := kept_g hb3 y0
      have z1 := kept_g hb3 y1
      have z2 := ownsRow_frozen HO3.out (k * 2)
      have z3 := ownsRow_frozen HO3.out (k * 2 + 1)
      clear hb3 y0 y1 y2 y3 xm
      go_wp2_with fail
      go_roundw
      case rel =>
        have h3 := row_setCell_lo (row_setCell_lo HM3.out (b := w.heap.size) (o := k * 2) hgl (.int .i64 (goneG (t1, t2)).1)) (b := w.heap.size) (o := k * 2 + 1) hgl (.int .i64 (goneG (t1, t2)).2)
        exact ⟨j + 1, by omega, by go_num, (HB3.out.setCell (Nat.le_refl _) _).setCell (Nat.le_refl _) _, by unfold Hid; rw [HNX.out]; exact HST.out _ HO3.out (goneG (t1, t2)), h3⟩
      case measure => simp [intOf]; omega
    · have hjc : j = c := by omega
      subst hjc
      have HE : Hid (chM goneG (ks.take j) ts = chP goneG p ts) := by unfold Hid; rw [HRES.out, ← HC.out, List.take_length]
      go_wp2
      go_ret
      exact ⟨_, cap, rfl, HBEL.out, Nat.le_refl _, by rw [← HE.out]; exact HOWN.out⟩
end Go.Proofs.YtkfeihnapcfkgaaDoor
