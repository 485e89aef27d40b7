/-
  MostAddresses: the program's search.
-/
import Derived.Test.YtpkkibnpjhlfmaaDoorMostImpl
import Derived.IntWalk
namespace Go.Proofs.YtpkkibnpjhlfmaaDoor
open Go.RowKit

/-- What a search leaves: the greatest number so far, and nothing else has turned. -/
def Ext (F : Nat → Nat) (N fb fc gb r : Nat) (w : World) (e : Ending) (w' : World) : Prop := e = .returned (.tuple #[]) ∧ Srch F N fb fc gb r w' ∧ w.grownBy w' (some gb)
theorem Srch.drewN {F : Nat → Nat} {N fb fc gb m : Nat} {w : World} (h : Srch F N fb fc gb m w) (n : Nat) : Srch F N fb fc gb m (w.drewN n) := h
theorem Srch.store {F : Nat → Nat} {N fb fc gb m m2 : Nat} {w : World} (h : Srch F N fb fc gb m w) (hne : fb ≠ gb) : Srch F N fb fc gb m2 (w.setCell ⟨gb, 1, none⟩ (.int .i64 (m2 : Int))) := by
  refine ⟨?_, fun i hi => ?_⟩
  · exact heap_setCell_same _ _ _ _ _ _ h.1
  · exact (World.cell?_of_block (w := w) (Below.heap_setCell w ⟨gb, 1, none⟩ _ fb hne)).trans (h.2 i hi)

set_option maxRecDepth 100000 in
set_option maxHeartbeats 8000000 in
theorem extend_any (F : Nat → Nat) (N fb fc gb : Nat) (w0 : World) (hb0 : w0.heap.size ≤ gb) (hne : fb ≠ gb) (hN : N ≤ 32) (hF : Hid (∀ i, i < N → F i < 4294967296)) (hF6 : Hid (∀ i, i < 64 → F i < 2 ^ 64)) (hsy : Hid (∀ a b, a < 64 → b < 64 → ftF F a b = ftF F b a)) (HT : Hid (∀ W, Below w0.heap.size w0 W → BitTab W)) :
    ∀ (x : Nat), x < 2 ^ N → ∀ (t m : Nat) (w : World), t + (bitsL x).length ≤ 32 → m ≤ 32 → Srch F N fb fc gb m w → Below w0.heap.size w0 w →
      Calls Tryd.prog 75 #[.pointer (some ⟨gb, 0, none⟩), .int .i64 (t : Int), .int .u64 (x : Int)] w (Ext F N fb fc gb (max m (t + om (ftF F) (bitsL x))) w) := by
  intro x
  induction x using Nat.strongRecOn with
  | ind x ih =>
    intro hx t m w ht hm hs hbel
    have IH := Lib.hid ih
    have HS := Lib.hid hs
    have HX := Lib.hid hx
    have HBL := Lib.hid hbel
    have HTL := Lib.hid ht
    have q1 := cell_of_row w gb 1 _ _ _ hs.1
    have z1 := frozen_of_row w gb 1 _ _ hs.1
    simp only [List.getElem?_toArray, List.getElem?_cons_zero, List.getElem?_cons_succ] at q1
    have ht32 : t ≤ 32 := by omega
    obtain ⟨r, hr⟩ : ∃ r, max m (t + om (ftF F) (bitsL x)) = r := ⟨_, rfl⟩
    rw [hr]
    have HR := Lib.hid hr
    clear ih hs hx hbel ht hr
    go_enter Tryd.func75, Tryd.ntmps75
    go_wp2
    go_loopw [2] (fun xv wr => ∃ (y m' : Nat), Hid (y < 2 ^ N) ∧ xv = .int .u64 (y : Int) ∧ Hid (t + (bitsL y).length ≤ 32) ∧ y ≤ x ∧ t ≤ m' ∧ m' ≤ 32 ∧ Hid (max m' (t + om (ftF F) (bitsL y)) = r) ∧ Hid (Srch F N fb fc gb m' wr) ∧ Hid (w.grownBy wr (some gb))) (fun xv _ => (intOf xv).toNat)
    case atStart =>
      refine ⟨x, max m t, HX.out, rfl, HTL.out, Nat.le_refl _, by omega, by omega, ?_, ?_, grown_setCell (grown_refl _ _) _⟩
      · have := HR.out
        unfold Hid; omega
      · have e1 : ((max m t : Nat) : Int) = max (m : Int) (t : Int) := by omega
        have := HS.out.store (m2 := max m t) hne
        rw [e1] at this
        exact this
    case round =>
      obtain ⟨y, m', HY, rfl, HTY, hyx, htm, hm32, HRY, HSY, HGY⟩ := hrel
      have hP := pow_32 hN
      have hY := HY.out
      have hl := HTY.out
      have hB64 := bnd_le F 64 y
      have hom : om (ftF F) (bitsL y) ≤ bnd F 64 y := bnd_om hF6.out hsy.out 64 y (by omega) (by omega)
      have HBW : Hid (Below w0.heap.size w0 wr) := HBL.out.grown HGY.out HBL.out.size (fun q hq => by injection hq with hq; omega)
      have HBN := bound_any F N fb fc gb m' y wr hN hF hY HSY (fun n => HT.out _ (Below.drewN' HBW.out n))
      have HBM := fun k => bound_any F N fb fc gb m' y (wr.drewN k) hN hF hY (HSY.out.drewN k) (fun n => HT.out _ (Below.drewN' (Below.drewN' HBW.out k) n))
      have p1 := cell_of_row wr gb 1 _ _ _ HSY.out.1
      have p0 := cell_of_row wr gb 0 _ _ _ HSY.out.1
      simp only [List.getElem?_toArray, List.getElem?_cons_zero, List.getElem?_cons_succ] at p1 p0
      generalize hBB : bnd F 64 y = B at HBN HBM hB64 hom
      have hw1 : IntKind.i64.wrap ((t : Int) + (B : Int)) = (t : Int) + (B : Int) := IntWalk.i64_in _ (by omega)
      by_cases hgt : m' < t + B
      · have hy0 : y ≠ 0 := by
          intro h0
          rw [h0, bnd_zero] at hBB
          omega
        have hgt1 : (m' : Int) < (t : Int) + (B : Int) := by omega
        have hgt2 : decide ((m' : Int) < (t : Int) + (B : Int)) = true := by simp; omega
        obtain ⟨c1, c2, _⟩ := ctz_bit hy0 (by omega)
        have hl1 := wo_len hy0 (by omega)
        have hst := om_step (F := F) hy0 (by omega)
        have hlt := wo_lt hy0 (by omega)
        have hvN := bit_lt hY c1
        have HFI := fun W hT => first_any y (by omega) W hT
        generalize Lib.ctz 64 y = v at *
        have x1 := HSY.out.2 v hvN
        have hFv := hF.out v hvN
        have HW1 := fun W => without_any y v (by omega) c2 W
        change ∀ W, Calls _ _ _ W (fun e w' => e = .returned (.int .u64 ((wo y v : Nat) : Int)) ∧ W = w') at HW1
        have hand := and_u64 (wo y v) (F v) (by omega) (by omega)
        have hle2 : wo y v &&& F v ≤ wo y v := Nat.and_le_left
        have hl2 : (bitsL (wo y v &&& F v)).length ≤ (bitsL (wo y v)).length := bitsL_len_and _ _
        have HRC := fun W => IH.out (wo y v &&& F v) (by omega) (by have := HX.out; omega) (t + 1) m' W (by omega) hm32
        have hmx : max m' (t + 1 + om (ftF F) (bitsL (wo y v &&& F v))) ≤ 32 := by have := om_len (ftF F) (bitsL (wo y v &&& F v)); omega
        have htm2 : t ≤ max m' (t + 1 + om (ftF F) (bitsL (wo y v &&& F v))) := by omega
        have HR2 : Hid (max (max m' (t + 1 + om (ftF F) (bitsL (wo y v &&& F v)))) (t + om (ftF F) (bitsL (wo y v))) = r) := by
          have := HRY.out
          rw [hst] at this
          unfold Hid; omega
        have HTN : Hid (t + (bitsL (wo y v)).length ≤ 32) := by unfold Hid; omega
        have HXN : Hid (wo y v < 2 ^ N) := by unfold Hid; omega
        have hXY : wo y v < y := hlt
        have HWR := Lib.hid (fun n => HSY.out.drewN n)
        have htc : ((t + 1 : Nat) : Int) = (t : Int) + 1 := by omega
        rw [htc] at HRC
        generalize hom2 : max m' (t + 1 + om (ftF F) (bitsL (wo y v &&& F v))) = m2 at *
        generalize wo y v &&& F v = A2 at *
        generalize wo y v = Y2 at *
        have hk0 : (0 : Int) ≤ (v : Int) := by omega
        have hk1 : (v : Int) < (N : Int) := by omega
        clear hl1 hst hlt hy0 hP hY hl c1 hFv hle2 hl2 htc hom hom2 hBB hgt HTY HRY IH
        go_wp2_with fail
        go_quiet (first | (go_at_call 88; refine Calls.mono (HBM _) ?_; rintro e w1 ⟨rfl, q, rfl⟩; exact ⟨rfl, _, World.drewN_drewN _ _ _⟩) | (go_at_call 88; refine Calls.mono HBN ?_; rintro e w1 ⟨rfl, q, rfl⟩; exact ⟨rfl, _, rfl⟩))
        go_wp2_with (first | (go_at_call 48; refine (HFI _ (HT.out _ (Below.drewN' HBW.out _))).mono ?_; rintro e w1 ⟨rfl, rfl⟩) | (go_at_call 59; refine (HW1 _).mono ?_; rintro e w1 ⟨rfl, rfl⟩) | (go_at_call 75; refine (HRC _ (HSY.out.drewN _) (Below.drewN' HBW.out _)).mono ?_; rintro e w3 ⟨rfl, hs3, hg3⟩))
        go_roundw
        case rel => exact ⟨Y2, m2, HXN.out, rfl, HTN.out, by omega, by omega, by omega, HR2.out, hs3, gb_trans HGY.out (gb_drewN_left _ hg3)⟩
        case measure => simp [intOf]; omega
      · have hgt1 : ¬ (m' : Int) < (t : Int) + (B : Int) := by omega
        have hgt2 : decide ((m' : Int) < (t : Int) + (B : Int)) = false := by simp; omega
        have HM : Hid (m' = r) := by have := HRY.out; unfold Hid; omega
        clear hP hY hl hom hBB hgt
        go_wp2_with fail
        go_quiet (first | (go_at_call 88; refine Calls.mono (HBM _) ?_; rintro e w1 ⟨rfl, q, rfl⟩; exact ⟨rfl, _, World.drewN_drewN _ _ _⟩) | (go_at_call 88; refine Calls.mono HBN ?_; rintro e w1 ⟨rfl, q, rfl⟩; exact ⟨rfl, _, rfl⟩))
        go_wp2
        exact bodyPost_ret (v := .tuple #[]) (by simp [results, Tryd.results75, go_sem]) rfl ⟨rfl, by rw [← HM.out]; exact HSY.out.drewN _, gb_drewN HGY.out _⟩
end Go.Proofs.YtpkkibnpjhlfmaaDoor
