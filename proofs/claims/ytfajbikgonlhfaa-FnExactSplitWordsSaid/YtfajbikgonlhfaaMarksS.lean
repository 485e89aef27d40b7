/-
  The walks of the laws' own helpers that write marks into a slice of texts and look for them again: markText, markStringS, heldStringS.
-/
import Derived.Test.YtfajbikgonlhfaaTexts
import Derived.Test.YtfajbikgonlhfaaDecMath
import Derived.Lib.Slices
import Derived.Laws.IdiomStrings
import Derived.IntWalk
namespace Go.Proofs.Ytfajbikgonlhfaa
open Go.RowKit

/-- The text m of a number above 0. -/
def markT (k : Int) : ByteArray := ⟨(109 :: digs k.toNat).toArray⟩
theorem byte_digit (d : Nat) (h : d < 10) : Value.int .u8 ((48 : Int) + (d : Int)) = Value.int .u8 (((UInt8.ofNat (48 + d)).toNat : Nat) : Int) := by
  rw [UInt8.toNat_ofNat']; congr 1; omega
theorem ret_mark {n : Nat} {l : List UInt8} (h : digs n = l) : Ending.returned (.string ⟨(109 :: l).toArray⟩) = .returned (.string (markT (n : Int))) := by
  unfold markT; rw [Int.toNat_natCast, h]
set_option maxRecDepth 100000 in
set_option maxHeartbeats 1000000 in
theorem markText_any (n : Nat) (h0 : 0 < n) (h1 : n ≤ 1100000000) (w : World) :
    Calls Try.prog 12 #[.int .i64 (n : Int)] w fun e w' => e = .returned (.string (markT (n : Int))) ∧ Below w.heap.size w w' := by
  go_enter Try.func12, Try.ntmps12
  go_wp2
  go_loopw [0, 3] (fun k o wr => ∃ (kk : Nat) (l : List UInt8), k = .int .i64 (kk : Int) ∧ o = .string ⟨l.toArray⟩ ∧ kk ≤ 1100000000 ∧ Hid (l.length ≤ 10) ∧ Hid (kk * 10 ^ l.length ≤ 1100000000) ∧ Hid (Below w.heap.size w wr) ∧ Hid (digs n = digs kk ++ l)) (fun k _ _ => (intOf k).toNat)
  case atStart => exact ⟨n, [], rfl, rfl, h1, by unfold Hid; simp, by unfold Hid; simpa using h1, Below.refl _ _, (List.append_nil _).symm⟩
  case round =>
    obtain ⟨kk, l, rfl, rfl, k1, HL, HM, HB, HD⟩ := hrel
    by_cases hz : kk = 0
    · subst hz
      have hadd := fun W : World => run_string_add_lists (P := Try.prog) W [109] l (by simp) (by have := HL.out; omega)
      go_wp2
      go_ret
      exact ⟨ret_mark HD.out, HB.out⟩
    · obtain ⟨d, hd, hd10⟩ : ∃ d : Nat, kk % 10 = d ∧ d < 10 := ⟨_, rfl, by omega⟩
      obtain ⟨q, hq⟩ : ∃ q : Nat, kk / 10 = q := ⟨_, rfl⟩
      have HX : Hid (digs n = digs q ++ (UInt8.ofNat (48 + d) :: l)) := by
        unfold Hid
        rw [HD.out, digs_step hz, hd, hq, List.append_assoc]; rfl
      have HK : Hid (l.length ≤ 9) := by
        unfold Hid
        have := HM.out
        by_cases h : l.length ≤ 9
        · exact h
        · exfalso
          have h10 : 10 ^ 10 ≤ 10 ^ l.length := Nat.pow_le_pow_right (by omega) (by omega)
          have h2 : 1 * 10 ^ 10 ≤ kk * 10 ^ l.length := Nat.mul_le_mul (by omega) h10
          omega
      have HM' : Hid (q * 10 ^ (l.length + 1) ≤ 1100000000) := by
        unfold Hid
        have h := HM.out
        have h2 : q * 10 ≤ kk := by omega
        calc q * 10 ^ (l.length + 1) = (q * 10) * 10 ^ l.length := by rw [Nat.pow_succ, Nat.mul_comm (10 ^ l.length) 10, ← Nat.mul_assoc]
          _ ≤ kk * 10 ^ l.length := Nat.mul_le_mul_right _ h2
          _ ≤ _ := h
      have HQ : Hid (q < kk) := by unfold Hid; omega
      have hp : (0 : Int) < (kk : Int) := by omega
      have hr : (kk : Int) % 10 = (d : Int) := by omega
      have hr2 : (kk : Int).tmod 10 = (d : Int) := by rw [Int.tmod_eq_emod_of_nonneg (by omega)]; exact hr
      have hq1 : (kk : Int) / 10 = (q : Int) := by omega
      have hq2 : (kk : Int).tdiv 10 = (q : Int) := by rw [Int.tdiv_eq_ediv_of_nonneg (by omega)]; exact hq1
      have HQ1 := Lib.hid hq1
      have HB8 := Lib.hid (byte_digit d hd10)
      clear hq1 hd hq
      have hqb : q ≤ 1100000000 := by have := HQ.out; omega
      generalize UInt8.ofNat (48 + d) = bd at HX HB8
      have hcv := run_convert_bytes_back (P := Try.prog) (wr.alloc (.cells #[.int .u8 (48 + (d : Int))] 5)) 34 9 5 ⟨wr.heap.size, 0, none⟩ 1 [bd] Try.underlying34 Try.underlying5 Try.underlying9 (fun j hj => by
        have : j = 0 := by simp at hj; omega
        subst this
        simp [go_sem, HB8.out])
      simp only [List.length_cons, List.length_nil, Nat.zero_add] at hcv
      have hadd := fun W : World => run_string_add_lists (P := Try.prog) W [bd] l (by simp) (by have := HL.out; omega)
      go_wp2
      go_roundw
      case rel => exact ⟨q, bd :: l, rfl, rfl, by omega, by unfold Hid; have := HK.out; simp; omega, HM'.out, HB.out.alloc HB.out.size _, HX.out⟩
      case measure => have := HQ.out; have := HQ1.out; simp [intOf]; omega

/-- What the laws write into a slice of texts. -/
theorem marksS_length (mt : Int → ByteArray) (k : Int) (n : Nat) : (marksS mt k n).length = n := by simp [marksS]
theorem marksS_get (mt : Int → ByteArray) (k : Int) (n i : Nat) (h : i < (marksS mt k n).length) : (marksS mt k n)[i] = mt (k + (i : Int)) := by simp [marksS]

theorem grown_then {a b c : World} {row : Option Nat} (h : a.grownBy b row) (k : Below b.heap.size b c) : a.grownBy c row :=
  ⟨k.os.trans h.os, k.tape.trans h.tape, k.output.trans h.output, Nat.le_trans h.size k.size, fun i hi hne => (k.block i (Nat.lt_of_lt_of_le hi h.size)).trans (h.block i hi hne)⟩
set_option maxRecDepth 100000 in
set_option maxHeartbeats 1000000 in
theorem markStringS_any (a : Option Addr) (xs : List Value) (lo n c : Nat) (k : Nat) (w : World) (hown : w.ownsRow lo 9 1 (.slice a n c) n xs) (hmax : n ≤ 1048577) (h0 : 0 < k) (h1 : k ≤ 1000000000) :
    Calls Try.prog 7 #[.slice a n c, .int .i64 (k : Int)] w (MarksS markT (.slice a n c) lo n k w) := by
  rcases hown.2 with ⟨hv, hz⟩ | ⟨g, cap, cur0, hv, hlo, hg, hnc, hcm, hcs, _⟩
  · injection hv with e1 e2 e3
    subst e1 e3
    have HZ := Lib.hid hz
    clear hz e2
    have HR : Hid (MarksS markT (.slice none n 0) lo n k w (.returned (.int .i64 (k : Int))) w) := by
      unfold Hid MarksS
      have := HZ.out
      subst this
      exact ⟨ret_int (by omega), grown_refl _ _, by simpa [marksS] using World.ownsRow_nil w lo 9 1⟩
    clear hown
    go_enter Try.func7, Try.ntmps7
    go_wp2
    go_loop [1, 5] (fun q i => ∃ j : Nat, j ≤ n ∧ i = .int .i64 j ∧ q = .int .i64 (k : Int)) (fun _ _ => 0)
    case atStart => exact ⟨0, by omega, rfl, rfl⟩
    case round =>
      obtain ⟨j, hj, rfl, rfl⟩ := hrel
      have hlt : ¬ j < n := by rw [HZ.out]; omega
      go_wp2
      go_ret
      exact HR.out
  · injection hv with e1 e2 e3
    subst e1 e3
    clear e2 hown
    have HLO : Hid (lo ≤ g ∧ n ≤ c ∧ c ≤ maxLen ∧ cur0.size = c * 1) := ⟨hlo, hnc, hcm, hcs⟩
    have HG0 := Lib.hid hg
    have HGL : Hid (g < w.heap.size) := (Array.getElem?_eq_some_iff.1 hg).1
    clear hlo hnc hcm hcs hg
    go_enter Try.func7, Try.ntmps7
    go_wp2
    go_loopw [1, 5] (fun q i wr => ∃ (j : Nat) (cur : Array Value), j ≤ n ∧ i = .int .i64 j ∧ q = .int .i64 ((k : Int) + (j : Int)) ∧ Hid (w.grownBy wr (some g)) ∧ Hid (wr.heap[g]? = some (.cells cur 9 (0, 0))) ∧ Hid (cur.size = c * 1) ∧ FilledS (marksS markT k n) cur j) (fun _ i _ => n - (intOf i).toNat)
    case atStart => exact ⟨0, cur0, by omega, rfl, by go_num, grown_refl _ _, HG0, HLO.out.2.2.2, fun _ _ h => by omega⟩
    case round =>
      obtain ⟨j, cur, hj, rfl, rfl, HGR, HG, HS, hfil⟩ := hrel
      by_cases hlt : j < n
      · have hk0 : (0 : Int) ≤ (j : Int) := by omega
        have hk1 : (j : Int) < (n : Int) := by omega
        have hc3 : j < cur.size := by rw [HS.out]; have := HLO.out.2.1; omega
        have HST := Lib.hid (hfil.stepM hc3 (by rw [marksS_length]; exact hlt))
        rw [marksS_get] at HST
        have HC3 := Lib.hid hc3
        have ekj : ((k + j : Nat) : Int) = (k : Int) + (j : Int) := by omega
        have hct := fun W : World => markText_any (k + j) (by omega) (by omega) W
        rw [ekj] at hct
        generalize markT ((k : Int) + (j : Int)) = mt at HST hct
        clear hfil hc3 ekj
        go_wp2_with fail
        refine (hct _).mono ?_
        rintro e w1 ⟨rfl, hb1⟩
        have HG1 : Hid (w1.heap[g]? = some (.cells cur 9 (0, 0))) := (hb1.block g (Nat.lt_of_lt_of_le HGL.out HGR.out.size)).trans HG.out
        have HGR1 : Hid (w.grownBy w1 (some g)) := grown_then HGR.out hb1
        have o1 : w1.cell? ⟨g, j, none⟩ = some (cur[j]'HC3.out) := by rw [cell_of_row w1 _ _ cur _ (0, 0) HG1.out]; exact Array.getElem?_eq_getElem _
        generalize cur[j]'HC3.out = o at o1
        have z1 := frozen_of_row w1 g j cur _ HG1.out
        clear hb1 hct
        go_wp2
        go_roundw
        case rel => exact ⟨j + 1, _, by omega, by go_num, by go_num, grown_setCell HGR1.out _, heap_setCell_same _ _ _ _ _ _ HG1.out, by unfold Hid; simp; exact (HS.out.trans (by omega)), HST.out⟩
        case measure => simp [intOf]; omega
      · have hjn : j = n := by omega
        have HR : Hid (MarksS markT (.slice (some ⟨g, 0, none⟩) n c) lo n k w (.returned (.int .i64 ((k : Int) + (j : Int)))) wr) := by
          subst hjn
          exact ⟨rfl, HGR.out, rowS_ownM HG.out HLO.out.1 HLO.out.2.1 HLO.out.2.2.1 HS.out (marksS_length _ _ _) hfil⟩
        clear hfil hjn
        go_wp2
        go_ret
        exact HR.out

set_option maxRecDepth 100000 in
set_option maxHeartbeats 1000000 in
theorem heldStringS_any (a : Option Addr) (n c : Nat) (k : Nat) (w : World) (hr : RS w a (marksS markT k n)) (hmax : n ≤ 1048577) (h0 : 0 < k) (h1 : k ≤ 1000000000) :
    Calls Try.prog 8 #[.slice a n c, .int .i64 (k : Int)] w fun e w' => e = .returned (.int .i64 ((k : Int) + (n : Int))) ∧ Below w.heap.size w w' := by
  by_cases hz : n = 0
  · have HZ := Lib.hid hz
    have HR : Hid ((k : Int) = (k : Int) + (n : Int)) := by unfold Hid; omega
    clear hz hr
    go_enter Try.func8, Try.ntmps8
    go_wp2
    go_loop [1, 5] (fun q i => ∃ j : Nat, j ≤ n ∧ i = .int .i64 j ∧ q = .int .i64 (k : Int)) (fun _ _ => 0)
    case atStart => exact ⟨0, by omega, rfl, rfl⟩
    case round =>
      obtain ⟨j, hj, rfl, rfl⟩ := hrel
      have hlt : ¬ j < n := by rw [HZ.out]; omega
      go_wp2
      go_ret
      exact ⟨ret_int HR.out, Below.refl _ _⟩
  · obtain ⟨b, off, rfl, hb, hc⟩ := hr.addr (by rw [marksS_length]; omega)
    have HC := Lib.hid hc
    clear hc hr
    go_enter Try.func8, Try.ntmps8
    go_wp2
    go_loopw [1, 5] (fun q i wr => ∃ j : Nat, j ≤ n ∧ i = .int .i64 j ∧ q = .int .i64 ((k : Int) + (j : Int)) ∧ Below w.heap.size w wr) (fun _ i _ => n - (intOf i).toNat)
    case atStart => exact ⟨0, by omega, rfl, by go_num, Below.refl _ _⟩
    case round =>
      obtain ⟨j, hj, rfl, rfl, hbel⟩ := hrel
      by_cases hlt : j < n
      · have x1 := HC.out j (by rw [marksS_length]; exact hlt)
        rw [marksS_get] at x1
        have ekj : ((k + j : Nat) : Int) = (k : Int) + (j : Int) := by omega
        have hct := fun W : World => markText_any (k + j) (by omega) (by omega) W
        rw [ekj] at hct
        generalize markT ((k : Int) + (j : Int)) = mt at x1 hct
        rw [← hbel.cell (p := ⟨_, _, none⟩) hb] at x1
        have HB1 := Lib.hid hbel
        have hbw : b < wr.heap.size := Nat.lt_of_lt_of_le hb hbel.size
        have hk0 : (0 : Int) ≤ (j : Int) := by omega
        have hk1 : (j : Int) < (n : Int) := by omega
        clear ekj hbel
        go_wp2_with fail
        go_region_held3 (fun w' => w'.cell? ⟨b, off + j, none⟩ = some (.string mt)) (first | exact x1 | exact (hb1.cell (p := ⟨b, off + j, none⟩) (by simpa using hbw)).trans x1) (first | (go_at_call 12; refine (hct _).mono ?_; rintro e w1 ⟨rfl, hb1⟩))
        go_wp2
        go_roundw
        case rel => exact ⟨j + 1, by omega, by go_num, by go_num, HB1.out.trans (((Below.refl _ _).drew.trans hb1).mono (HB1.out.size))⟩
        case measure => simp [intOf]; omega
      · have hjn : j = n := by omega
        have HR : Hid ((k : Int) + (j : Int) = (k : Int) + (n : Int)) := by unfold Hid; omega
        clear hjn
        go_wp2
        go_ret
        exact ⟨ret_int HR.out, hbel⟩
end Go.Proofs.Ytfajbikgonlhfaa
