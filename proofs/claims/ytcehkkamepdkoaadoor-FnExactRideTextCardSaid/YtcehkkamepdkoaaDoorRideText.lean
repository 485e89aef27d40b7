/-
  The walks of RideText, the model's and the program's, and of the law FnExactRideText: the text is told as a list of bytes.
-/
import Derived.Test.YtcehkkamepdkoaaDoorRideLeaf
import Derived.Test.YtcehkkamepdkoaaDoorPowLaid
import Derived.Lib.ItoaLen
namespace Go.Proofs.YtcehkkamepdkoaaDoor
open Go.RowKit Go.ChangeShapes Go.WideShapes

def rideText (t : R4) : List UInt8 := if rideB t then (fun (a b c d : Int) => Lib.itoa a ++ (109 :: 32 :: (Lib.itoa b ++ (103 :: 32 :: (Lib.itoa c ++ (112 :: 32 :: (Lib.itoa d ++ ([98])))))))) t.1 t.2.1 t.2.2.1 t.2.2.2 else []
theorem rideText_bad {t : R4} (h : rideB t = false) : rideText t = [] := by unfold rideText; rw [h]; rfl
theorem rideText_good {a b c d : Int} (h : rideB (a, b, c, d) = true) : rideText (a, b, c, d) = Lib.itoa a ++ (109 :: 32 :: (Lib.itoa b ++ (103 :: 32 :: (Lib.itoa c ++ (112 :: 32 :: (Lib.itoa d ++ ([98]))))))) := by unfold rideText; rw [h]; rfl

set_option maxRecDepth 100000 in
set_option maxHeartbeats 4000000 in
theorem l03Text_any (pb po : Nat) (a b c d : Int) (w : World) (h : rideB (a, b, c, d) = true) (p0 : w.cell? ⟨pb, po, none⟩ = some (.int .i64 a)) (p1 : w.cell? ⟨pb, po + 1, none⟩ = some (.int .i64 b)) (p2 : w.cell? ⟨pb, po + 2, none⟩ = some (.int .i64 c)) (p3 : w.cell? ⟨pb, po + 3, none⟩ = some (.int .i64 d)) :
    Calls Tryd.prog 12 #[.pointer (some ⟨pb, po, none⟩)] w fun e w' => e = .returned (.string ⟨(rideText (a, b, c, d)).toArray⟩) ∧ Below w.heap.size w w' := by
  have HR := Lib.hid (rideText_good h)
  have hp := rideB_parts h
  simp only at hp
  have hlt := World.block_lt_of_cell? w _ p0
  simp only at hlt
  have la := Lib.itoa_length_le a (by omega) (by omega)
  have lb := Lib.itoa_length_le b (by omega) (by omega)
  have lc := Lib.itoa_length_le c (by omega) (by omega)
  have ld := Lib.itoa_length_le d (by omega) (by omega)
  have hadd0 := fun W : World => run_string_add_lists (P := Tryd.prog) W (Lib.itoa a) [109, 32] (by first | omega | (simp; omega)) (by first | omega | (simp; done) | (simp; omega))
  have hadd1 := fun W : World => run_string_add_lists (P := Tryd.prog) W (Lib.itoa a ++ ([109, 32])) (Lib.itoa b) (by first | omega | (simp; omega)) (by first | omega | (simp; done) | (simp; omega))
  have hadd2 := fun W : World => run_string_add_lists (P := Tryd.prog) W (Lib.itoa a ++ (109 :: 32 :: (Lib.itoa b))) [103, 32] (by first | omega | (simp; omega)) (by first | omega | (simp; done) | (simp; omega))
  have hadd3 := fun W : World => run_string_add_lists (P := Tryd.prog) W (Lib.itoa a ++ (109 :: 32 :: (Lib.itoa b ++ ([103, 32])))) (Lib.itoa c) (by first | omega | (simp; omega)) (by first | omega | (simp; done) | (simp; omega))
  have hadd4 := fun W : World => run_string_add_lists (P := Tryd.prog) W (Lib.itoa a ++ (109 :: 32 :: (Lib.itoa b ++ (103 :: 32 :: (Lib.itoa c))))) [112, 32] (by first | omega | (simp; omega)) (by first | omega | (simp; done) | (simp; omega))
  have hadd5 := fun W : World => run_string_add_lists (P := Tryd.prog) W (Lib.itoa a ++ (109 :: 32 :: (Lib.itoa b ++ (103 :: 32 :: (Lib.itoa c ++ ([112, 32])))))) (Lib.itoa d) (by first | omega | (simp; omega)) (by first | omega | (simp; done) | (simp; omega))
  have hadd6 := fun W : World => run_string_add_lists (P := Tryd.prog) W (Lib.itoa a ++ (109 :: 32 :: (Lib.itoa b ++ (103 :: 32 :: (Lib.itoa c ++ (112 :: 32 :: (Lib.itoa d))))))) [98] (by first | omega | (simp; omega)) (by first | omega | (simp; done) | (simp; omega))
  have HK : Hid (∀ w', Below w.heap.size w w' → w'.cell? ⟨pb, po, none⟩ = some (.int .i64 a) ∧ w'.cell? ⟨pb, po + 1, none⟩ = some (.int .i64 b) ∧ w'.cell? ⟨pb, po + 2, none⟩ = some (.int .i64 c) ∧ w'.cell? ⟨pb, po + 3, none⟩ = some (.int .i64 d)) := fun w' hh => ⟨(hh.cell (p := ⟨_, _, none⟩) hlt).trans p0, (hh.cell (p := ⟨_, _, none⟩) hlt).trans p1, (hh.cell (p := ⟨_, _, none⟩) hlt).trans p2, (hh.cell (p := ⟨_, _, none⟩) hlt).trans p3⟩
  have d' := (Below.refl w.heap.size w).drew
  clear p0 p1 p2 p3 h
  go_enter Tryd.func12, Tryd.ntmps12
  go_wp2_with fail
  go_region_held3 (fun w' => w'.cell? ⟨pb, po, none⟩ = some (.int .i64 a) ∧ w'.cell? ⟨pb, po + 1, none⟩ = some (.int .i64 b) ∧ w'.cell? ⟨pb, po + 2, none⟩ = some (.int .i64 c) ∧ w'.cell? ⟨pb, po + 3, none⟩ = some (.int .i64 d))
    (first | exact HK.out _ (Below.refl _ _) | exact HK.out _ d' | exact HK.out _ (d'.trans hb1) | exact HK.out _ ((d'.trans hb1).trans (hb2.mono (d'.trans hb1).size)) | exact HK.out _ (((d'.trans hb1).trans (hb2.mono (d'.trans hb1).size)).trans (hb3.mono ((d'.trans hb1).trans (hb2.mono (d'.trans hb1).size)).size)) | exact HK.out _ ((((d'.trans hb1).trans (hb2.mono (d'.trans hb1).size)).trans (hb3.mono ((d'.trans hb1).trans (hb2.mono (d'.trans hb1).size)).size)).trans (hb4.mono (((d'.trans hb1).trans (hb2.mono (d'.trans hb1).size)).trans (hb3.mono ((d'.trans hb1).trans (hb2.mono (d'.trans hb1).size)).size)).size)))
    (first | (go_at_call_of 21 a; refine (l01Dec_any a (by omega) (by omega) _).mono ?_; rintro e w1 ⟨rfl, hb1⟩) | (go_at_call_of 21 b; refine (l01Dec_any b (by omega) (by omega) _).mono ?_; rintro e w2 ⟨rfl, hb2⟩) | (go_at_call_of 21 c; refine (l01Dec_any c (by omega) (by omega) _).mono ?_; rintro e w3 ⟨rfl, hb3⟩) | (go_at_call_of 21 d; refine (l01Dec_any d (by omega) (by omega) _).mono ?_; rintro e w4 ⟨rfl, hb4⟩))
  have HB4 : Hid (Below w.heap.size w w4) := ((((d'.trans hb1).trans (hb2.mono (d'.trans hb1).size)).trans (hb3.mono ((d'.trans hb1).trans (hb2.mono (d'.trans hb1).size)).size)).trans (hb4.mono (((d'.trans hb1).trans (hb2.mono (d'.trans hb1).size)).trans (hb3.mono ((d'.trans hb1).trans (hb2.mono (d'.trans hb1).size)).size)).size))
  clear hb1 hb2 hb3 hb4 d' HK
  go_wp2
  go_ret
  exact ⟨ret_str HR.out.symm, HB4.out⟩

set_option maxHeartbeats 1000000 in
theorem specRideText_any (t : R4) (w : World) : Calls Tryd.prog 5 #[.agg #[.int .i64 t.1, .int .i64 t.2.1, .int .i64 t.2.2.1, .int .i64 t.2.2.2]] w fun e w' => e = .returned (.string ⟨(rideText t).toArray⟩) ∧ Below w.heap.size w w' := by
  obtain ⟨a, b, c, d⟩ := t
  have P0 := Box.alloc w (cRide (a, b, c, d)) 25
  obtain ⟨p0, p1, p2, p3⟩ := cRide_box P0
  go_enter Tryd.func5, Tryd.ntmps5
  go_wp2_with fail
  refine (l03Ok_any _ 0 (a, b, c, d) _ p0 p1 p2 p3).mono ?_
  rintro e w1 ⟨rfl, hb1⟩
  obtain ⟨x0, x1, x2, x3⟩ := cRide_box (P0.below hb1)
  have HB : Hid (Below w.heap.size w w1) := (show Below w.heap.size w _ from (by repeat (first | exact Below.refl _ _ | exact HB.out | refine Below.drew ?_ | refine Below.drewN' ?_ _ | refine Below.alloc ?_ (by first | omega | (simp; try omega)) _ | refine Below.setCell ?_ (by first | omega | (simp; try omega)) _))).trans (hb1.mono (by simp))
  clear hb1 P0 p0 p1 p2 p3
  cases hv : rideB (a, b, c, d) with
  | false =>
    have HR := Lib.hid (rideText_bad hv)
    go_wp2
    go_ret
    exact ⟨by rw [HR.out]; rfl, HB.out⟩
  | true =>
    go_wp2_with fail
    refine (l03Text_any _ 0 a b c d _ hv x0 x1 x2 x3).mono ?_
    rintro e w2 ⟨rfl, hb2⟩
    have HB2 : Hid (Below w.heap.size w w2) := HB.out.trans (hb2.mono HB.out.size)
    clear hb2
    go_wp2
    go_ret
    exact ⟨rfl, HB2.out⟩

set_option maxRecDepth 100000 in
set_option maxHeartbeats 4000000 in
theorem implRideText_any (t : R4) (w : World) {B : Nat} (ht : PowTab B w) (hBw : B ≤ w.heap.size) : Calls Tryd.prog 7 #[.agg #[.int .i64 t.1, .int .i64 t.2.1, .int .i64 t.2.2.1, .int .i64 t.2.2.2]] w fun e w' => e = .returned (.string ⟨(rideText t).toArray⟩) ∧ Below w.heap.size w w' := by
  obtain ⟨a, b, c, d⟩ := t
  have P0 := Box.alloc w (cRide (a, b, c, d)) 25
  have HT : Hid (∀ w', Below w.heap.size w w' → PowTab B w') := fun w' h => ht.on (h.mono hBw)
  clear ht
  go_enter Tryd.func7, Tryd.ntmps7
  go_wp2_with fail
  refine (implValidRide_any (a, b, c, d) _).mono ?_
  rintro e w0 ⟨rfl, hb0⟩
  have P1 := P0.below hb0
  have HB : Hid (Below w.heap.size w w0) := (show Below w.heap.size w _ from (by repeat (first | exact Below.refl _ _ | exact HB.out | refine Below.drew ?_ | refine Below.drewN' ?_ _ | refine Below.alloc ?_ (by first | omega | (simp; try omega)) _ | refine Below.setCell ?_ (by first | omega | (simp; try omega)) _))).trans (hb0.mono (by simp))
  clear hb0 P0
  cases hv : rideB (a, b, c, d) with
  | false =>
    have HR := Lib.hid (rideText_bad hv)
    go_wp2
    go_ret
    exact ⟨by rw [HR.out]; rfl, HB.out⟩
  | true =>
    have HR := Lib.hid (rideText_good hv)
    have hp := rideB_parts hv
    simp only at hp
    have la := Lib.itoa_length_le a (by omega) (by omega)
    have lb := Lib.itoa_length_le b (by omega) (by omega)
    have lc := Lib.itoa_length_le c (by omega) (by omega)
    have ld := Lib.itoa_length_le d (by omega) (by omega)
    have hadd0 := fun W : World => run_string_add_lists (P := Tryd.prog) W (Lib.itoa a) [109, 32] (by first | omega | (simp; omega)) (by first | omega | (simp; done) | (simp; omega))
    have hadd1 := fun W : World => run_string_add_lists (P := Tryd.prog) W (Lib.itoa a ++ ([109, 32])) (Lib.itoa b) (by first | omega | (simp; omega)) (by first | omega | (simp; done) | (simp; omega))
    have hadd2 := fun W : World => run_string_add_lists (P := Tryd.prog) W (Lib.itoa a ++ (109 :: 32 :: (Lib.itoa b))) [103, 32] (by first | omega | (simp; omega)) (by first | omega | (simp; done) | (simp; omega))
    have hadd3 := fun W : World => run_string_add_lists (P := Tryd.prog) W (Lib.itoa a ++ (109 :: 32 :: (Lib.itoa b ++ ([103, 32])))) (Lib.itoa c) (by first | omega | (simp; omega)) (by first | omega | (simp; done) | (simp; omega))
    have hadd4 := fun W : World => run_string_add_lists (P := Tryd.prog) W (Lib.itoa a ++ (109 :: 32 :: (Lib.itoa b ++ (103 :: 32 :: (Lib.itoa c))))) [112, 32] (by first | omega | (simp; omega)) (by first | omega | (simp; done) | (simp; omega))
    have hadd5 := fun W : World => run_string_add_lists (P := Tryd.prog) W (Lib.itoa a ++ (109 :: 32 :: (Lib.itoa b ++ (103 :: 32 :: (Lib.itoa c ++ ([112, 32])))))) (Lib.itoa d) (by first | omega | (simp; omega)) (by first | omega | (simp; done) | (simp; omega))
    have hadd6 := fun W : World => run_string_add_lists (P := Tryd.prog) W (Lib.itoa a ++ (109 :: 32 :: (Lib.itoa b ++ (103 :: 32 :: (Lib.itoa c ++ (112 :: 32 :: (Lib.itoa d))))))) [98] (by first | omega | (simp; omega)) (by first | omega | (simp; done) | (simp; omega))
    have hgw := HB.out.size
    have HK : Hid (∀ w', Below w0.heap.size w0 w' → w'.cell? ⟨w.heap.size, 0, none⟩ = some (.int .i64 a) ∧ w'.cell? ⟨w.heap.size, 1, none⟩ = some (.int .i64 b) ∧ w'.cell? ⟨w.heap.size, 2, none⟩ = some (.int .i64 c) ∧ w'.cell? ⟨w.heap.size, 3, none⟩ = some (.int .i64 d)) := fun w' hh => cRide_box (P1.below hh)
    have HT0 : Hid (∀ w', Below w0.heap.size w0 w' → PowTab B w') := fun w' h => HT.out w' (HB.out.trans (h.mono HB.out.size))
    have d' := (Below.refl w0.heap.size w0).drew
    clear hv P1 HT
    go_wp2_with fail
    go_region_held3 (fun w' => w'.cell? ⟨w.heap.size, 0, none⟩ = some (.int .i64 a) ∧ w'.cell? ⟨w.heap.size, 1, none⟩ = some (.int .i64 b) ∧ w'.cell? ⟨w.heap.size, 2, none⟩ = some (.int .i64 c) ∧ w'.cell? ⟨w.heap.size, 3, none⟩ = some (.int .i64 d))
      (first | exact HK.out _ (Below.refl _ _) | exact HK.out _ d' | exact HK.out _ (d'.trans hb1) | exact HK.out _ ((d'.trans hb1).trans (hb2.mono (d'.trans hb1).size)) | exact HK.out _ (((d'.trans hb1).trans (hb2.mono (d'.trans hb1).size)).trans (hb3.mono ((d'.trans hb1).trans (hb2.mono (d'.trans hb1).size)).size)) | exact HK.out _ ((((d'.trans hb1).trans (hb2.mono (d'.trans hb1).size)).trans (hb3.mono ((d'.trans hb1).trans (hb2.mono (d'.trans hb1).size)).size)).trans (hb4.mono (((d'.trans hb1).trans (hb2.mono (d'.trans hb1).size)).trans (hb3.mono ((d'.trans hb1).trans (hb2.mono (d'.trans hb1).size)).size)).size)))
      (first | (go_at_call_of 14 a; refine (implDecimal_any a (by omega) (by omega) _ (HT0.out _ d')).mono ?_; rintro e w1 ⟨rfl, hb1⟩) | (go_at_call_of 14 b; refine (implDecimal_any b (by omega) (by omega) _ (HT0.out _ (d'.trans hb1))).mono ?_; rintro e w2 ⟨rfl, hb2⟩) | (go_at_call_of 14 c; refine (implDecimal_any c (by omega) (by omega) _ (HT0.out _ ((d'.trans hb1).trans (hb2.mono (d'.trans hb1).size)))).mono ?_; rintro e w3 ⟨rfl, hb3⟩) | (go_at_call_of 14 d; refine (implDecimal_any d (by omega) (by omega) _ (HT0.out _ (((d'.trans hb1).trans (hb2.mono (d'.trans hb1).size)).trans (hb3.mono ((d'.trans hb1).trans (hb2.mono (d'.trans hb1).size)).size)))).mono ?_; rintro e w4 ⟨rfl, hb4⟩))
    have HB4 : Hid (Below w.heap.size w w4) := HB.out.trans ((((((d'.trans hb1).trans (hb2.mono (d'.trans hb1).size)).trans (hb3.mono ((d'.trans hb1).trans (hb2.mono (d'.trans hb1).size)).size)).trans (hb4.mono (((d'.trans hb1).trans (hb2.mono (d'.trans hb1).size)).trans (hb3.mono ((d'.trans hb1).trans (hb2.mono (d'.trans hb1).size)).size)).size))).mono HB.out.size)
    clear hb1 hb2 hb3 hb4 d' HK HT0
    go_wp2
    go_ret
    exact ⟨ret_str HR.out.symm, HB4.out⟩
end Go.Proofs.YtcehkkamepdkoaaDoor
