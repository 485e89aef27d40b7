/-
  The walks of NetText: the model's. The text is told as a list of bytes.
-/
import Derived.Test.YtmnfkieacmoglaaDoorNetValid
import Derived.Test.YtmnfkieacmoglaaDoorDecWalk
import Derived.Lib.ItoaLen
namespace Go.Proofs.YtmnfkieacmoglaaDoor
open Go.RowKit

def tubeText (t : T3) : List UInt8 := 32 :: (Lib.itoa t.1 ++ (62 :: (Lib.itoa t.2.1 ++ (42 :: Lib.itoa t.2.2))))
def tubesText (ts : List T3) : List UInt8 := ts.flatMap tubeText
def netText (s : Int) (ts : List T3) : List UInt8 := if netB s ts = true then Lib.itoa s ++ (58 :: tubesText ts) else []
theorem netText_bad {s : Int} {ts : List T3} (h : netB s ts = false) : netText s ts = [] := by unfold netText; rw [h]; rfl
theorem netText_good {s : Int} {ts : List T3} (h : netB s ts = true) : netText s ts = Lib.itoa s ++ (58 :: tubesText ts) := by unfold netText; rw [h]; rfl
theorem tubesText_step (ts : List T3) (i : Nat) (h : i < ts.length) : tubesText (ts.take (i + 1)) = tubesText (ts.take i) ++ tubeText ts[i] := by
  unfold tubesText
  rw [List.take_succ_eq_append_getElem h, List.flatMap_append]
  simp
theorem tubeText_len {st : Int} {t : T3} (hst : st ≤ 10) (h : tubeB st t = true) : (tubeText t).length ≤ 66 := by
  unfold tubeB at h
  simp only [decide_eq_true_eq] at h
  have l1 := Lib.itoa_length_le t.1 (by omega) (by omega)
  have l2 := Lib.itoa_length_le t.2.1 (by omega) (by omega)
  have l3 := Lib.itoa_length_le t.2.2 (by omega) (by omega)
  unfold tubeText
  simp only [List.length_cons, List.length_append]
  omega
theorem tubesText_len {st : Int} {ts : List T3} (h : netB st ts = true) (i : Nat) : (tubesText (ts.take i)).length ≤ 66 * i := by
  obtain ⟨_, h2, _, h4⟩ := netB_parts h
  induction i with
  | zero => simp [tubesText]
  | succ i ih =>
    by_cases hi : i < ts.length
    · rw [tubesText_step ts i hi, List.length_append]
      have := tubeText_len h2 (h4 ts[i] (List.getElem_mem hi))
      omega
    · rw [List.take_of_length_le (by omega)] at ih ⊢
      omega

set_option maxRecDepth 100000 in
set_option maxHeartbeats 4000000 in
theorem l02Text_any (pb : Nat) (s : Int) (a : Option Addr) (ts : List T3) (n ca : Nat) (w : World) (hn : Hid (ts.length = n)) (ha : RT w a ts)
    (p0 : w.cell? ⟨pb, 0, none⟩ = some (.int .i64 s)) (p1 : w.cell? ⟨pb, 1, none⟩ = some (.slice a n ca)) (hnet : netB s ts = true) :
    Calls Tryd.prog 11 #[.pointer (some ⟨pb, 0, none⟩)] w fun e w' => e = .returned (.string ⟨(netText s ts).toArray⟩) ∧ Below w.heap.size w w' := by
  have HR := Lib.hid (netText_good hnet)
  have hpb := World.block_lt_of_cell? w _ p0
  simp only at hpb
  obtain ⟨hs1, hs2, hlen, hall⟩ := netB_parts hnet
  rw [hn.out] at hlen
  have HALL := Lib.hid hall
  have HNET := Lib.hid hnet
  have HA : Hid (∀ w', Below w.heap.size w w' → RT w' a ts) := fun w' h => ha.below h
  have HP := Lib.hid (And.intro p0 p1)
  have ls := Lib.itoa_length_le s (by omega) (by omega)
  have hadd0 := fun W : World => run_string_add_lists (P := Tryd.prog) W (Lib.itoa s) [58] (by first | omega | (simp; done) | (simp; omega)) (by first | omega | (simp; done) | (simp; omega))
  clear hall hnet ha
  have HMOST : Hid (∀ i, (tubesText (ts.take i)).length ≤ 66 * i) := tubesText_len HNET.out
  go_enter Tryd.func11, Tryd.ntmps11
  go_wp2_with (go_at_call 20; refine (l01Dec_any s (by omega) (by omega) _).mono ?_; rintro e w1 ⟨rfl, hb1⟩)
  have B1 := Lib.hid hb1
  clear hb1 p0 p1
  go_loopw [3, 4] (fun q iv wr => ∃ (i : Nat) (o : List UInt8), i ≤ n ∧ iv = .int .i64 i ∧ q = .string ⟨o.toArray⟩ ∧ Below w.heap.size w wr ∧ Hid (o = Lib.itoa s ++ (58 :: tubesText (ts.take i)))) (fun _ iv _ => n - (intOf iv).toNat)
  case atStart => exact ⟨0, Lib.itoa s ++ [58], by omega, rfl, rfl, B1.out, by unfold Hid; simp [tubesText]⟩
  case round =>
    obtain ⟨i, o, hi, rfl, rfl, hbel, HO⟩ := hrel
    have HBEL := Lib.hid hbel
    have q0 := (hbel.cell (p := ⟨pb, 0, none⟩) hpb).trans HP.out.1
    have q1 := (hbel.cell (p := ⟨pb, 1, none⟩) hpb).trans HP.out.2
    clear hbel
    by_cases hlt : i < n
    · have hia : i < ts.length := by rw [hn.out]; exact hlt
      have hol : o.length ≤ 2000 := by
        have := HMOST.out i
        rw [HO.out]; simp only [List.length_append, List.length_cons]; omega
      have HO2 : Hid (o ++ tubeText ts[i] = Lib.itoa s ++ (58 :: tubesText (ts.take (i + 1)))) := by
        unfold Hid; rw [HO.out, tubesText_step ts i hia]; simp
      have htb := HALL.out ts[i] (List.getElem_mem hia)
      obtain hz | ⟨b, off, rfl, hc⟩ := HA.out wr HBEL.out
      · subst hz; simp at hia
      obtain ⟨x0, x1, x2⟩ := hc i hia
      generalize ts[i] = t at x0 x1 x2 HO2 htb
      obtain ⟨fa, fb, fc⟩ := t
      unfold tubeB at htb
      simp only [decide_eq_true_eq] at htb
      simp only at x0 x1 x2
      have la := Lib.itoa_length_le fa (by omega) (by omega)
      have lb := Lib.itoa_length_le fb (by omega) (by omega)
      have lc := Lib.itoa_length_le fc (by omega) (by omega)
      have hadd1 := fun W : World => run_string_add_lists (P := Tryd.prog) W [32] (Lib.itoa fa) (by first | omega | (simp; done) | (simp; omega)) (by first | omega | (simp; done) | (simp; omega))
      have hadd2 := fun W : World => run_string_add_lists (P := Tryd.prog) W (32 :: Lib.itoa fa) [62] (by first | omega | (simp; done) | (simp; omega)) (by first | omega | (simp; done) | (simp; omega))
      have hadd3 := fun W : World => run_string_add_lists (P := Tryd.prog) W (32 :: (Lib.itoa fa ++ [62])) (Lib.itoa fb) (by first | omega | (simp; done) | (simp; omega)) (by first | omega | (simp; done) | (simp; omega))
      have hadd4 := fun W : World => run_string_add_lists (P := Tryd.prog) W (32 :: (Lib.itoa fa ++ (62 :: Lib.itoa fb))) [42] (by first | omega | (simp; done) | (simp; omega)) (by first | omega | (simp; done) | (simp; omega))
      have hadd5 := fun W : World => run_string_add_lists (P := Tryd.prog) W (32 :: (Lib.itoa fa ++ (62 :: (Lib.itoa fb ++ [42])))) (Lib.itoa fc) (by first | omega | (simp; done) | (simp; omega)) (by first | omega | (simp; done) | (simp; omega))
      have hadd6 := fun W : World => run_string_add_lists (P := Tryd.prog) W o (32 :: (Lib.itoa fa ++ (62 :: (Lib.itoa fb ++ (42 :: Lib.itoa fc))))) (by first | omega | (simp; done) | (simp; omega)) (by first | omega | (simp; done) | (simp; omega))
      have HA0 : Hid (Below w.heap.size w (wr.alloc (.cells #[.int .i64 fa, .int .i64 fb, .int .i64 fc] 48))) := HBEL.out.alloc HBEL.out.size _
      have HK : Hid (∀ w', Below (wr.alloc (.cells #[.int .i64 fa, .int .i64 fb, .int .i64 fc] 48)).heap.size (wr.alloc (.cells #[.int .i64 fa, .int .i64 fb, .int .i64 fc] 48)) w' → w'.cell? ⟨wr.heap.size, 0, none⟩ = some (.int .i64 fa) ∧ w'.cell? ⟨wr.heap.size, 1, none⟩ = some (.int .i64 fb) ∧ w'.cell? ⟨wr.heap.size, 2, none⟩ = some (.int .i64 fc)) := fun w' hh => ⟨(hh.cell (p := ⟨_, _, none⟩) (by simp)).trans (by simp [go_sem]), (hh.cell (p := ⟨_, _, none⟩) (by simp)).trans (by simp [go_sem]), (hh.cell (p := ⟨_, _, none⟩) (by simp)).trans (by simp [go_sem])⟩
      have d' := (Below.refl (wr.alloc (.cells #[.int .i64 fa, .int .i64 fb, .int .i64 fc] 48)).heap.size (wr.alloc (.cells #[.int .i64 fa, .int .i64 fb, .int .i64 fc] 48))).drew
      have hi0 : (0 : Int) ≤ (i : Int) := by omega
      have hi1 : (i : Int) < (n : Int) := by omega
      clear hc
      go_wp2_with fail
      go_region_held3 (fun w' => w'.cell? ⟨wr.heap.size, 0, none⟩ = some (.int .i64 fa) ∧ w'.cell? ⟨wr.heap.size, 1, none⟩ = some (.int .i64 fb) ∧ w'.cell? ⟨wr.heap.size, 2, none⟩ = some (.int .i64 fc))
        (first | exact HK.out _ (Below.refl _ _) | exact HK.out _ d' | exact HK.out _ (d'.trans hb1) | exact HK.out _ ((d'.trans hb1).trans (hb2.mono (d'.trans hb1).size)) | exact HK.out _ (((d'.trans hb1).trans (hb2.mono (d'.trans hb1).size)).trans (hb3.mono ((d'.trans hb1).trans (hb2.mono (d'.trans hb1).size)).size)))
        (first | (go_at_call_of 20 fa; refine (l01Dec_any fa (by omega) (by omega) _).mono ?_; rintro e w4 ⟨rfl, hb1⟩) | (go_at_call_of 20 fb; refine (l01Dec_any fb (by omega) (by omega) _).mono ?_; rintro e w5 ⟨rfl, hb2⟩) | (go_at_call_of 20 fc; refine (l01Dec_any fc (by omega) (by omega) _).mono ?_; rintro e w6 ⟨rfl, hb3⟩))
      have B6 := Lib.hid (HA0.out.trans ((((d'.trans hb1).trans (hb2.mono (d'.trans hb1).size)).trans (hb3.mono ((d'.trans hb1).trans (hb2.mono (d'.trans hb1).size)).size)).mono HA0.out.size))
      clear hb1 hb2 hb3 d' HK q0 q1 x0 x1 x2
      go_wp2
      go_roundw
      case rel => exact ⟨i + 1, _, by omega, by go_num, rfl, B6.out, HO2⟩
      case measure => simp [intOf]; omega
    · have hin : i = n := by omega
      have HFIN : Hid (netText s ts = o) := by unfold Hid; rw [HR.out, HO.out, hin, ← hn.out, List.take_length]
      go_wp2
      go_ret
      exact ⟨ret_str HFIN.out.symm, HBEL.out⟩

set_option maxHeartbeats 2000000 in
theorem specNetText_any (s : Int) (a : Option Addr) (ts : List T3) (n ca : Nat) (w : World) (hn : Hid (ts.length = n)) (ha : RT w a ts) (hmax : n ≤ 1048576) :
    Calls Tryd.prog 5 #[.agg #[.int .i64 s, .slice a n ca]] w fun e w' => e = .returned (.string ⟨(netText s ts).toArray⟩) ∧ Below w.heap.size w w' := by
  have HA : Hid (∀ w', Below w.heap.size w w' → RT w' a ts) := fun w' h => ha.below h
  have NB : Hid (Below w.heap.size w (w.alloc (.cells #[.int .i64 s, .slice a n ca] 29))) := (by repeat (first | exact Below.refl _ _ | refine Below.alloc ?_ (by simp; try omega) _ | refine Below.setCell ?_ (by simp; try omega) _))
  have p0 : (w.alloc (.cells #[.int .i64 s, .slice a n ca] 29)).cell? ⟨w.heap.size, 0, none⟩ = some (.int .i64 s) := by simp [go_sem]
  have p1 : (w.alloc (.cells #[.int .i64 s, .slice a n ca] 29)).cell? ⟨w.heap.size, 1, none⟩ = some (.slice a n ca) := by simp [go_sem]
  have hz : w.heap.size < (w.alloc (.cells #[.int .i64 s, .slice a n ca] 29)).heap.size := by simp
  clear ha
  go_enter Tryd.func5, Tryd.ntmps5
  go_wp2_with fail
  refine (l02Ok_any w.heap.size s a ts n ca _ hn (HA.out _ NB.out) hmax p0 p1).mono ?_
  rintro e w1 ⟨rfl, hb1⟩
  have q0 := (hb1.cell (p := ⟨w.heap.size, 0, none⟩) hz).trans p0
  have q1 := (hb1.cell (p := ⟨w.heap.size, 1, none⟩) hz).trans p1
  have B1 := Lib.hid (Below.trans NB.out (hb1.mono (by simp)))
  clear hb1 p0 p1 hz
  cases hv : netB s ts with
  | false =>
    have HR := Lib.hid (netText_bad hv)
    go_wp2
    go_ret
    exact ⟨by rw [HR.out]; rfl, B1.out⟩
  | true =>
    have HV := Lib.hid hv
    clear hv
    go_wp2_with fail
    refine (l02Text_any w.heap.size s a ts n ca _ hn (HA.out _ B1.out) q0 q1 HV.out).mono ?_
    rintro e w2 ⟨rfl, hb2⟩
    have B2 := Lib.hid (B1.out.trans (hb2.mono B1.out.size))
    clear hb2 q0 q1
    go_wp2
    go_ret
    exact ⟨rfl, B2.out⟩
end Go.Proofs.YtmnfkieacmoglaaDoor
