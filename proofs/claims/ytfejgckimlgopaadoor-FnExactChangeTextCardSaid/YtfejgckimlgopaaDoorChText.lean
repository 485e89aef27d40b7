/-
  The walks of ChangeText, the model's and the program's: the text is told as a list of bytes.
-/
import Derived.Test.YtfejgckimlgopaaDoorZoneLeafT
import Derived.Test.YtfejgckimlgopaaDoorPowLaid
import Derived.Lib.ItoaLen
namespace Go.Proofs.YtfejgckimlgopaaDoor
open Go.RowKit Go.ChangeShapes Go.WideShapes

def chText (t : C3) : List UInt8 := if chB 8 t then (fun (a b c : Int) => Lib.itoa a ++ (58 :: 32 :: 122 :: 111 :: 110 :: 101 :: 32 :: (Lib.itoa b ++ (32 :: 97 :: 116 :: 32 :: Lib.itoa c)))) t.1 t.2.1 t.2.2 else []
theorem chText_bad {t : C3} (h : chB 8 t = false) : chText t = [] := by unfold chText; rw [h]; rfl
theorem chText_good {a b c : Int} (h : chB 8 (a, b, c) = true) : chText (a, b, c) = Lib.itoa a ++ (58 :: 32 :: 122 :: 111 :: 110 :: 101 :: 32 :: (Lib.itoa b ++ (32 :: 97 :: 116 :: 32 :: Lib.itoa c))) := by unfold chText; rw [h]; rfl

set_option maxRecDepth 100000 in
set_option maxHeartbeats 4000000 in
theorem specChangeText_any (t : C3) (w : World) : Calls Tryd.prog 23 #[.agg #[.int .i64 t.1, .int .i64 t.2.1, .int .i64 t.2.2]] w fun e w' => e = .returned (.string ⟨(chText t).toArray⟩) ∧ Below w.heap.size w w' := by
  obtain ⟨a, b, c⟩ := t
  dsimp only
  have P0 := Box.alloc w (cChange (a, b, c)) 36
  obtain ⟨p0, p1, p2⟩ := cChange_box P0
  have HK : Hid (∀ w', Below (w.alloc (.cells (cChange (a, b, c)).toArray 36)).heap.size (w.alloc (.cells (cChange (a, b, c)).toArray 36)) w' → w'.cell? ⟨w.heap.size, 0, none⟩ = some (.int .i64 a) ∧ w'.cell? ⟨w.heap.size, 1, none⟩ = some (.int .i64 b) ∧ w'.cell? ⟨w.heap.size, 2, none⟩ = some (.int .i64 c)) := fun w' hh => cChange_box (P0.below hh)
  have d' := (Below.refl (w.alloc (.cells (cChange (a, b, c)).toArray 36)).heap.size (w.alloc (.cells (cChange (a, b, c)).toArray 36))).drew
  cases hv : chB 8 (a, b, c) with
  | false =>
    have HR := Lib.hid (chText_bad hv)
    go_enter Tryd.func23, Tryd.ntmps23
    go_wp2_with fail
    refine (l09Change_any (a, b, c) 8 _ 0 _ (by omega) p0 p1 p2).mono ?_
    rintro e w' ⟨rfl, rfl⟩
    rw [hv]
    go_wp2
    go_ret
    exact ⟨by rw [HR.out]; rfl, (by repeat (first | exact Below.refl _ _ | refine Below.alloc ?_ (by simp; try omega) _ | refine Below.setCell ?_ (by simp; try omega) _))⟩
  | true =>
    have HR := Lib.hid (chText_good hv)
    have hp := chB_parts hv
    simp only at hp
    obtain ⟨hp1, hp2, hp3⟩ := hp
    have la := Lib.itoa_length_le a (by omega) (by omega)
    have lb := Lib.itoa_length_le b (by omega) (by omega)
    have lc := Lib.itoa_length_le c (by omega) (by omega)
    have hadd0 := fun W : World => run_string_add_lists (P := Tryd.prog) W (Lib.itoa a) [58, 32, 122, 111, 110, 101, 32] (by first | omega | (simp; omega)) (by first | omega | (simp; done) | (simp; omega))
    have hadd1 := fun W : World => run_string_add_lists (P := Tryd.prog) W (Lib.itoa a ++ ([58, 32, 122, 111, 110, 101, 32])) (Lib.itoa b) (by first | omega | (simp; omega)) (by first | omega | (simp; done) | (simp; omega))
    have hadd2 := fun W : World => run_string_add_lists (P := Tryd.prog) W (Lib.itoa a ++ (58 :: 32 :: 122 :: 111 :: 110 :: 101 :: 32 :: (Lib.itoa b))) [32, 97, 116, 32] (by first | omega | (simp; omega)) (by first | omega | (simp; done) | (simp; omega))
    have hadd3 := fun W : World => run_string_add_lists (P := Tryd.prog) W (Lib.itoa a ++ (58 :: 32 :: 122 :: 111 :: 110 :: 101 :: 32 :: (Lib.itoa b ++ ([32, 97, 116, 32])))) (Lib.itoa c) (by first | omega | (simp; omega)) (by first | omega | (simp; done) | (simp; omega))
    go_enter Tryd.func23, Tryd.ntmps23
    go_wp2_with fail
    refine (l09Change_any (a, b, c) 8 _ 0 _ (by omega) p0 p1 p2).mono ?_
    rintro e w' ⟨rfl, rfl⟩
    rw [hv]
    clear p0 p1 p2 P0 hv
    go_wp2_with fail
    go_region_held3 (fun w' => w'.cell? ⟨w.heap.size, 0, none⟩ = some (.int .i64 a) ∧ w'.cell? ⟨w.heap.size, 1, none⟩ = some (.int .i64 b) ∧ w'.cell? ⟨w.heap.size, 2, none⟩ = some (.int .i64 c))
      (first | exact HK.out _ (Below.refl _ _) | exact HK.out _ d' | exact HK.out _ (d'.trans hb1) | exact HK.out _ ((d'.trans hb1).trans (hb2.mono (d'.trans hb1).size)) | exact HK.out _ (((d'.trans hb1).trans (hb2.mono (d'.trans hb1).size)).trans (hb3.mono ((d'.trans hb1).trans (hb2.mono (d'.trans hb1).size)).size)))
      (first | (go_at_call_of 61 a; refine (l01Dec_any a (by omega) (by omega) _).mono ?_; rintro e w1 ⟨rfl, hb1⟩) | (go_at_call_of 61 b; refine (l01Dec_any b (by omega) (by omega) _).mono ?_; rintro e w2 ⟨rfl, hb2⟩) | (go_at_call_of 61 c; refine (l01Dec_any c (by omega) (by omega) _).mono ?_; rintro e w3 ⟨rfl, hb3⟩))
    have HB3 : Hid (Below w.heap.size w w3) := Below.trans ((Below.refl _ _).alloc (Nat.le_refl _) _) ((((d'.trans hb1).trans (hb2.mono (d'.trans hb1).size)).trans (hb3.mono ((d'.trans hb1).trans (hb2.mono (d'.trans hb1).size)).size)).mono (by simp))
    clear hb1 hb2 hb3 d' HK
    go_wp2
    go_ret
    exact ⟨ret_str HR.out.symm, HB3.out⟩
set_option maxRecDepth 100000 in
set_option maxHeartbeats 4000000 in
theorem implChangeText_any (t : C3) (w : World) {B : Nat} (ht : PowTab B w) (hBw : B ≤ w.heap.size) : Calls Tryd.prog 22 #[.agg #[.int .i64 t.1, .int .i64 t.2.1, .int .i64 t.2.2]] w fun e w' => e = .returned (.string ⟨(chText t).toArray⟩) ∧ Below w.heap.size w w' := by
  obtain ⟨a, b, c⟩ := t
  dsimp only
  have P0 := Box.alloc w (cChange (a, b, c)) 36
  have HT : Hid (∀ w', Below w.heap.size w w' → PowTab B w') := fun w' h => ht.on (h.mono hBw)
  clear ht
  go_enter Tryd.func22, Tryd.ntmps22
  go_wp2_with fail
  refine (isOf_any (a, b, c) 8 _ (by omega)).mono ?_
  rintro e w0 ⟨rfl, hb0⟩
  have P1 := P0.below hb0
  have HB : Hid (Below w.heap.size w w0) := Below.trans (by repeat (first | exact Below.refl _ _ | refine Below.alloc ?_ (by simp; try omega) _ | refine Below.setCell ?_ (by simp; try omega) _)) (hb0.mono (by simp))
  clear hb0 P0
  cases hv : chB 8 (a, b, c) with
  | false =>
    have HR := Lib.hid (chText_bad hv)
    go_wp2
    go_ret
    exact ⟨by rw [HR.out]; rfl, HB.out⟩
  | true =>
    have HR := Lib.hid (chText_good hv)
    have hp := chB_parts hv
    simp only at hp
    obtain ⟨hp1, hp2, hp3⟩ := hp
    have la := Lib.itoa_length_le a (by omega) (by omega)
    have lb := Lib.itoa_length_le b (by omega) (by omega)
    have lc := Lib.itoa_length_le c (by omega) (by omega)
    have hadd0 := fun W : World => run_string_add_lists (P := Tryd.prog) W (Lib.itoa a) [58, 32, 122, 111, 110, 101, 32] (by first | omega | (simp; omega)) (by first | omega | (simp; done) | (simp; omega))
    have hadd1 := fun W : World => run_string_add_lists (P := Tryd.prog) W (Lib.itoa a ++ ([58, 32, 122, 111, 110, 101, 32])) (Lib.itoa b) (by first | omega | (simp; omega)) (by first | omega | (simp; done) | (simp; omega))
    have hadd2 := fun W : World => run_string_add_lists (P := Tryd.prog) W (Lib.itoa a ++ (58 :: 32 :: 122 :: 111 :: 110 :: 101 :: 32 :: (Lib.itoa b))) [32, 97, 116, 32] (by first | omega | (simp; omega)) (by first | omega | (simp; done) | (simp; omega))
    have hadd3 := fun W : World => run_string_add_lists (P := Tryd.prog) W (Lib.itoa a ++ (58 :: 32 :: 122 :: 111 :: 110 :: 101 :: 32 :: (Lib.itoa b ++ ([32, 97, 116, 32])))) (Lib.itoa c) (by first | omega | (simp; omega)) (by first | omega | (simp; done) | (simp; omega))
    have hgw := HB.out.size
    have HK : Hid (∀ w', Below w0.heap.size w0 w' → w'.cell? ⟨w.heap.size, 0, none⟩ = some (.int .i64 a) ∧ w'.cell? ⟨w.heap.size, 1, none⟩ = some (.int .i64 b) ∧ w'.cell? ⟨w.heap.size, 2, none⟩ = some (.int .i64 c)) := fun w' hh => cChange_box (P1.below hh)
    have HT0 : Hid (∀ w', Below w0.heap.size w0 w' → PowTab B w') := fun w' h => HT.out w' (HB.out.trans (h.mono HB.out.size))
    have d' := (Below.refl w0.heap.size w0).drew
    clear hv P1 HT
    go_wp2_with fail
    go_region_held3 (fun w' => w'.cell? ⟨w.heap.size, 0, none⟩ = some (.int .i64 a) ∧ w'.cell? ⟨w.heap.size, 1, none⟩ = some (.int .i64 b) ∧ w'.cell? ⟨w.heap.size, 2, none⟩ = some (.int .i64 c))
      (first | exact HK.out _ (Below.refl _ _) | exact HK.out _ d' | exact HK.out _ (d'.trans hb1) | exact HK.out _ ((d'.trans hb1).trans (hb2.mono (d'.trans hb1).size)) | exact HK.out _ (((d'.trans hb1).trans (hb2.mono (d'.trans hb1).size)).trans (hb3.mono ((d'.trans hb1).trans (hb2.mono (d'.trans hb1).size)).size)))
      (first | (go_at_call_of 60 a; refine (implDecimal_any a (by omega) (by omega) _ (HT0.out _ d')).mono ?_; rintro e w1 ⟨rfl, hb1⟩) | (go_at_call_of 60 b; refine (implDecimal_any b (by omega) (by omega) _ (HT0.out _ (d'.trans hb1))).mono ?_; rintro e w2 ⟨rfl, hb2⟩) | (go_at_call_of 60 c; refine (implDecimal_any c (by omega) (by omega) _ (HT0.out _ ((d'.trans hb1).trans (hb2.mono (d'.trans hb1).size)))).mono ?_; rintro e w3 ⟨rfl, hb3⟩))
    have HB3 : Hid (Below w.heap.size w w3) := HB.out.trans ((((d'.trans hb1).trans (hb2.mono (d'.trans hb1).size)).trans (hb3.mono ((d'.trans hb1).trans (hb2.mono (d'.trans hb1).size)).size)).mono HB.out.size)
    clear hb1 hb2 hb3 d' HK
    go_wp2
    go_ret
    exact ⟨ret_str HR.out.symm, HB3.out⟩
end Go.Proofs.YtfejgckimlgopaaDoor
