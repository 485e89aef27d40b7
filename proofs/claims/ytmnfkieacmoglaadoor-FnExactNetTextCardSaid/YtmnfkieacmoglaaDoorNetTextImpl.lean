/-
  The walk of NetText, the program's.
-/
import Derived.Test.YtmnfkieacmoglaaDoorNetText
import Derived.Test.YtmnfkieacmoglaaDoorBuild
namespace Go.Proofs.YtmnfkieacmoglaaDoor
open Go.RowKit

theorem tube_kept {b k : Nat} {cs : Array Value} {w w' : World} (h : Lib.OthersKept 5 (some b) w w') (hne : k ≠ b) (ht : w.heap[k]? = some (.cells cs 48 (0, 0))) : w'.heap[k]? = some (.cells cs 48 (0, 0)) :=
  h k _ ht (fun e => hne (Option.some.inj e)) (fun c fz e => by injection e with _ e2; exact absurd e2 (by decide))

set_option maxRecDepth 100000 in
set_option maxHeartbeats 4000000 in
theorem implNetText_any (s : Int) (a : Option Addr) (ts : List T3) (n ca : Nat) (w : World) (hn : Hid (ts.length = n)) (ha : RT w a ts) (hmax : n ≤ 1048576) {B0 : Nat} (ht : PowTab B0 w) (hB0 : B0 ≤ w.heap.size) :
    Calls Tryd.prog 7 #[.agg #[.int .i64 s, .slice a n ca]] w fun e w' => e = .returned (.string ⟨(netText s ts).toArray⟩) ∧ Below w.heap.size w w' := by
  have HA : Hid (∀ w', Below w.heap.size w w' → RT w' a ts) := fun w' h => ha.below h
  have HT : Hid (∀ w', Below w.heap.size w w' → PowTab B0 w') := fun w' h => ht.on (h.mono hB0)
  have NB : Hid (Below w.heap.size w (w.alloc (.cells #[.int .i64 s, .slice a n ca] 29))) := (by repeat (first | exact Below.refl _ _ | refine Below.alloc ?_ (by simp; try omega) _ | refine Below.setCell ?_ (by simp; try omega) _))
  have p0 : (w.alloc (.cells #[.int .i64 s, .slice a n ca] 29)).cell? ⟨w.heap.size, 0, none⟩ = some (.int .i64 s) := by simp [go_sem]
  have p1 : (w.alloc (.cells #[.int .i64 s, .slice a n ca] 29)).cell? ⟨w.heap.size, 1, none⟩ = some (.slice a n ca) := by simp [go_sem]
  have hz : w.heap.size < (w.alloc (.cells #[.int .i64 s, .slice a n ca] 29)).heap.size := by simp
  clear ha ht
  go_enter Tryd.func7, Tryd.ntmps7
  go_wp2_with fail
  refine (implValidNet_any s a ts n ca _ hn (HA.out _ NB.out) hmax).mono ?_
  rintro e w1 ⟨rfl, hb1⟩
  have HQ1 : Hid (w1.cell? ⟨w.heap.size, 0, none⟩ = some (.int .i64 s) ∧ w1.cell? ⟨w.heap.size, 1, none⟩ = some (.slice a n ca)) := ⟨(hb1.cell (p := ⟨w.heap.size, 0, none⟩) hz).trans p0, (hb1.cell (p := ⟨w.heap.size, 1, none⟩) hz).trans p1⟩
  have Z1 : Hid (w.heap.size < w1.heap.size) := Nat.lt_of_lt_of_le hz hb1.size
  have B1 := Lib.hid (Below.trans NB.out (hb1.mono (by simp)))
  clear hb1 p0 p1 hz NB
  cases hv : netB s ts with
  | false =>
    have HR := Lib.hid (netText_bad hv)
    go_wp2
    go_ret
    exact ⟨by rw [HR.out]; rfl, B1.out⟩
  | true =>
    have HR := Lib.hid (netText_good hv)
    have HMOST : Hid (∀ i, (tubesText (ts.take i)).length ≤ 66 * i) := tubesText_len hv
    obtain ⟨hs1, hs2, hlen, hall⟩ := netB_parts hv
    rw [hn.out] at hlen
    have HALL := Lib.hid hall
    have ls := Lib.itoa_length_le s (by omega) (by omega)
    clear hall hv
    have H0 : Hid (Bldr w1.heap.size w1.heap.size [] (w1.alloc (.cells #[.pointer none, .slice none 0 0] 42))) := Lib.IsBuilderF.of (Lib.fresh_isBuilder _ _ w1)
    have E0 : Hid (Below w1.heap.size w1 (w1.alloc (.cells #[.pointer none, .slice none 0 0] 42))) := (Below.refl _ _).alloc (Nat.le_refl _) _
    obtain ⟨q0, q1⟩ := HQ1.out
    have HUP : Hid (∀ W, Below w1.heap.size w1 W → Below w.heap.size w W) := fun W h => B1.out.trans (h.mono B1.out.size)
    have HQ : Hid (∀ W, Below w1.heap.size w1 W → W.cell? ⟨w.heap.size, 0, none⟩ = some (.int .i64 s) ∧ W.cell? ⟨w.heap.size, 1, none⟩ = some (.slice a n ca)) := fun W h => ⟨(h.cell (p := ⟨w.heap.size, 0, none⟩) Z1.out).trans HQ1.out.1, (h.cell (p := ⟨w.heap.size, 1, none⟩) Z1.out).trans HQ1.out.2⟩
    have a0 := (HQ.out _ E0.out).1
    have a1 := (HQ.out _ E0.out).2
    clear q0 q1 B1
    go_wp2_with fail
    refine (writeDecimal_any w1.heap.size w1.heap.size [] s (by omega) (by omega) _ (HT.out _ (HUP.out _ E0.out)) H0.out (by simp) E0.out.size).mono ?_
    rintro e w2 ⟨rfl, h2, hb2, _⟩
    have E2 := Lib.hid (E0.out.trans hb2)
    have H2 := Lib.hid h2
    clear h2 hb2 a0 a1
    go_wp2_with fail
    refine (writeByte_any w1.heap.size w1.heap.size _ 58 58 rfl _ H2.out (by first | omega | (simp; omega)) E2.out.size).mono ?_
    rintro e w3 ⟨rfl, h3, hb3, _⟩
    have E3 := Lib.hid (E2.out.trans hb3)
    have H3 := Lib.hid h3
    clear h3 hb3
    obtain ⟨c0, c1⟩ := HQ.out _ E3.out
    go_wp2
    go_loopw [16] (fun iv wr => ∃ i : Nat, i ≤ n ∧ iv = .int .i64 i ∧ Below w1.heap.size w1 wr ∧ Hid (Bldr w1.heap.size w1.heap.size (Lib.itoa s ++ (58 :: tubesText (ts.take i))) wr)) (fun iv _ => n - (intOf iv).toNat)
    case atStart => exact ⟨0, by omega, rfl, E3.out, by have := H3.out; unfold Hid; simpa [tubesText] using this⟩
    case round =>
      obtain ⟨i, hi, rfl, hbel, HB⟩ := hrel
      have HBEL := Lib.hid hbel
      clear hbel c0 c1
      have hol : (Lib.itoa s ++ (58 :: tubesText (ts.take i))).length ≤ 2000 := by
        have := HMOST.out i
        simp only [List.length_append, List.length_cons]; omega
      by_cases hlt : i < n
      · have hia : i < ts.length := by rw [hn.out]; exact hlt
        have HO2 : Hid (Lib.itoa s ++ (58 :: tubesText (ts.take (i + 1))) = (Lib.itoa s ++ (58 :: tubesText (ts.take i))) ++ tubeText ts[i]) := by
          unfold Hid; rw [tubesText_step ts i hia]; simp
        generalize Lib.itoa s ++ (58 :: tubesText (ts.take i)) = o at HB hol HO2
        have htb := HALL.out ts[i] (List.getElem_mem hia)
        obtain hz | ⟨b, off, rfl, hc⟩ := HA.out wr (HUP.out _ HBEL.out)
        · subst hz; simp at hia
        obtain ⟨x0, x1, x2⟩ := hc i hia
        generalize ts[i] = t at x0 x1 x2 HO2 htb
        obtain ⟨fa, fb, fc⟩ := t
        unfold tubeB at htb
        simp only [decide_eq_true_eq] at htb
        simp only at x0 x1 x2
        have la := Lib.itoa_length_le fa (by omega) (by omega)
        have lb := Lib.itoa_length_le fb (by omega) (by omega)
        have lc := Lib.itoa_length_le fc (by omega) (by omega)
        have T0 : Hid ((wr.alloc (.cells #[.int .i64 fa, .int .i64 fb, .int .i64 fc] 48)).heap[wr.heap.size]? = some (.cells #[.int .i64 fa, .int .i64 fb, .int .i64 fc] 48 (0, 0))) := heap_alloc_new wr _
        have HNE : Hid (wr.heap.size ≠ w1.heap.size) := by
          unfold Hid
          have : w1.heap.size < wr.heap.size := by
            rcases HB.out with h | h
            · exact h.lt
            · exact h.lt
          omega
        have HA1 : Hid (Bldr w1.heap.size w1.heap.size o (wr.alloc (.cells #[.int .i64 fa, .int .i64 fb, .int .i64 fc] 48))) := Bldr.below HB.out ((Below.refl _ _).alloc (Nat.le_refl _) _)
        have EA : Hid (Below w1.heap.size w1 (wr.alloc (.cells #[.int .i64 fa, .int .i64 fb, .int .i64 fc] 48))) := HBEL.out.alloc HBEL.out.size _
        have hi0 : (0 : Int) ≤ (i : Int) := by omega
        have hi1 : (i : Int) < (n : Int) := by omega
        clear hc HB
        go_wp2_with fail
        refine (writeByte_any w1.heap.size w1.heap.size _ 32 32 rfl _ HA1.out (by first | omega | (simp; omega)) EA.out.size).mono ?_
        rintro e w4 ⟨rfl, h4, hb4, hk4⟩
        have T4 := Lib.hid (tube_kept hk4 HNE.out T0.out)
        have E4 := Lib.hid (EA.out.trans hb4)
        have H4 := Lib.hid h4
        clear h4 hb4 hk4 x0 x1 x2 HA1 EA T0
        have y0 := (cell_of_row w4 wr.heap.size 0 _ _ (0, 0) T4.out).trans (by rfl : _ = some (Value.int .i64 fa))
        go_wp2_with fail
        refine (writeDecimal_any w1.heap.size w1.heap.size _ fa (by omega) (by omega) _ (HT.out _ (HUP.out _ E4.out)) H4.out (by first | omega | (simp; omega)) E4.out.size).mono ?_
        rintro e w5 ⟨rfl, h5, hb5, hk5⟩
        have T5 := Lib.hid (tube_kept hk5 HNE.out T4.out)
        have E5 := Lib.hid (E4.out.trans hb5)
        have H5 := Lib.hid h5
        clear h5 hb5 hk5 H4 E4 T4 y0
        go_wp2_with fail
        refine (writeByte_any w1.heap.size w1.heap.size _ 62 62 rfl _ H5.out (by first | omega | (simp; omega)) E5.out.size).mono ?_
        rintro e w6 ⟨rfl, h6, hb6, hk6⟩
        have T6 := Lib.hid (tube_kept hk6 HNE.out T5.out)
        have E6 := Lib.hid (E5.out.trans hb6)
        have H6 := Lib.hid h6
        clear h6 hb6 hk6 H5 E5 T5
        have y1 := (cell_of_row w6 wr.heap.size 1 _ _ (0, 0) T6.out).trans (by rfl : _ = some (Value.int .i64 fb))
        go_wp2_with fail
        refine (writeDecimal_any w1.heap.size w1.heap.size _ fb (by omega) (by omega) _ (HT.out _ (HUP.out _ E6.out)) H6.out (by first | omega | (simp; omega)) E6.out.size).mono ?_
        rintro e w7 ⟨rfl, h7, hb7, hk7⟩
        have T7 := Lib.hid (tube_kept hk7 HNE.out T6.out)
        have E7 := Lib.hid (E6.out.trans hb7)
        have H7 := Lib.hid h7
        clear h7 hb7 hk7 H6 E6 T6 y1
        go_wp2_with fail
        refine (writeByte_any w1.heap.size w1.heap.size _ 42 42 rfl _ H7.out (by first | omega | (simp; omega)) E7.out.size).mono ?_
        rintro e w8 ⟨rfl, h8, hb8, hk8⟩
        have T8 := Lib.hid (tube_kept hk8 HNE.out T7.out)
        have E8 := Lib.hid (E7.out.trans hb8)
        have H8 := Lib.hid h8
        clear h8 hb8 hk8 H7 E7 T7
        have y2 := (cell_of_row w8 wr.heap.size 2 _ _ (0, 0) T8.out).trans (by rfl : _ = some (Value.int .i64 fc))
        go_wp2_with fail
        refine (writeDecimal_any w1.heap.size w1.heap.size _ fc (by omega) (by omega) _ (HT.out _ (HUP.out _ E8.out)) H8.out (by first | omega | (simp; omega)) E8.out.size).mono ?_
        rintro e w9 ⟨rfl, h9, hb9, _⟩
        have E9 := Lib.hid (E8.out.trans hb9)
        have H9 : Hid (Bldr w1.heap.size w1.heap.size (Lib.itoa s ++ (58 :: tubesText (ts.take (i + 1)))) w9) := by
          unfold Hid
          rw [HO2.out]
          have e1 : o ++ tubeText (fa, fb, fc) = ((((((o ++ [32]) ++ Lib.itoa fa) ++ [62]) ++ Lib.itoa fb) ++ [42]) ++ Lib.itoa fc) := by simp [tubeText]
          rw [e1]; exact h9
        clear h9 hb9 H8 E8 T8 y2
        go_wp2
        go_roundw
        case rel => exact ⟨i + 1, by omega, by go_num, E9.out, H9⟩
        case measure => simp [intOf]; omega
      · have hin : i = n := by omega
        have HFIN : Hid (netText s ts = Lib.itoa s ++ (58 :: tubesText (ts.take i))) := by unfold Hid; rw [HR.out, hin, ← hn.out, List.take_length]
        generalize Lib.itoa s ++ (58 :: tubesText (ts.take i)) = o at HB HFIN
        go_wp2_with fail
        refine (string_any w1.heap.size w1.heap.size o _ HB.out HBEL.out.size).mono ?_
        rintro e w4 ⟨rfl, hb4⟩
        have D4 := Lib.hid (HUP.out _ (HBEL.out.trans hb4))
        clear hb4
        go_wp2
        go_ret
        exact ⟨ret_str HFIN.out.symm, D4.out⟩
end Go.Proofs.YtmnfkieacmoglaaDoor
