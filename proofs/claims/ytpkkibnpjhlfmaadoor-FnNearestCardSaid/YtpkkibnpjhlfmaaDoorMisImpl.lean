/-
  MisreadAs: the program's walk.
-/
import Derived.Test.YtpkkibnpjhlfmaaDoorNumbers
namespace Go.Proofs.YtpkkibnpjhlfmaaDoor
open Go.RowKit

def lessS (ss : List ByteArray) (u : ByteArray) (j n : Nat) : Nat := setN (fun i => decide (farS ss u i < j)) n
theorem lessS_zero (ss : List ByteArray) (u : ByteArray) (n : Nat) : lessS ss u 0 n = 0 := setN_zero.2 fun i _ => by simp
theorem lessS_step (ss : List ByteArray) (u : ByteArray) (j n : Nat) : lessS ss u j n ||| setD ss u j n = lessS ss u (j + 1) n := by
  unfold lessS setD
  rw [setN_union]
  refine setN_congr fun i _ => ?_
  have : (farS ss u i < j + 1) ↔ (farS ss u i < j ∨ farS ss u i = j) := by omega
  simp [this]
theorem lessS_end {ss : List ByteArray} {u : ByteArray} {k r n : Nat} (hk : k < ss.length) (e : ss[k] = u) (hk4 : k < 64) (hn : n ≤ 64) : lessS ss u (r + 1) n &&& (2 ^ 64 - 1 - 2 ^ k) = setN (misP ss k (r : Int)) n := by
  unfold lessS
  rw [setN_without _ n k _ (not_pow hk4) hn]
  refine setN_congr fun i _ => ?_
  unfold misP
  rw [List.getD_eq_getElem?_getD, List.getElem?_eq_getElem hk, e]
  have : (((farS ss u i : Nat) : Int) ≤ (r : Int)) ↔ (farS ss u i < r + 1) := by omega
  simp only [Option.getD_some, this]
  rw [Bool.and_comm]
theorem orU (x y : Nat) (hx : x < 18446744073709551616) (hy : y < 18446744073709551616) : bits BinOp.or IntKind.u64 (x : Int) (y : Int) = ((x ||| y : Nat) : Int) := bits_or_u64_nat x y hx hy

set_option maxRecDepth 100000 in
theorem slice_nine (rn : Nat) (h : rn ≤ 8) (B : Nat) (W : World) : Sem.run Tryd.prog (Instr.sliceAt 63 (.pointer (some ⟨B, 0, none⟩)) none (some (.int .i64 ((rn : Int) + 1))) none) W = .ok (.slice (some ⟨B, 0, none⟩) (rn + 1) 9) W := by
  have hal0 : Tryd.prog.arrayLen 63 = 9 := by kernel_rfl
  have e1 : Tryd.prog.elem 63 = 62 := by kernel_rfl
  have h1 := run_sliceAt_array_h (P := Tryd.prog) (t := 63) (a := ⟨B, 0, none⟩) (w := W) (ht := Tryd.underlying63) .i64 ((rn : Int) + 1) (by omega) (by rw [hal0]; omega)
  rw [h1, hal0, e1]
  have e2 : ((rn : Int) + 1).toNat = rn + 1 := by omega
  rw [e2]
  obtain ⟨i0, hi⟩ : ∃ i0 : TypeInfo, Tryd.prog.info? 62 = some i0 := Option.isSome_iff_exists.1 (show (Tryd.prog.info? 62).isSome = true by kernel_rfl)
  rw [run_sizeOf (i := i0) (h := hi)]
  simp [Result.andThen, slicedAt, Addr.add]

set_option maxRecDepth 100000 in
set_option maxHeartbeats 8000000 in
theorem implMis_any (g : Int) (a : Option Addr) (ss : List ByteArray) (n ca : Nat) (k r : Int) (w : World) (hn : Hid (ss.length = n)) (ha : RS w a ss) (hmax : n ≤ 1048576) (hcap : n ≤ ca) (hcm : ca ≤ 9223372036854775807) (hsz : Hid (∀ s ∈ ss, s.size ≤ 1048576)) (hT : BitTab w) :
    Calls Tryd.prog 18 #[.int .i64 g, .slice a n ca, .int .i64 k, .int .i64 r] w (GivesL (misAns g ss k r) w) := by
  have HCK := checkA_any g a ss n ca 0 w hn ha hmax hcap hcm hsz
  have HA : Hid (∀ W, Below w.heap.size w W → RS W a ss) := fun W hB => ha.below hB
  have HT : Hid (∀ W, Below w.heap.size w W → BitTab W) := fun W hB => hT.below hB
  clear ha hT
  cases ho : okB g (bls ss) with
  | false =>
    have HR := Lib.hid (misAns_bad (k := k) (r := r) ho)
    rw [codeA_bad ho] at HCK
    have C1 : ∀ x m : Int, rangeC 1 x m = 1 := fun x m => rangeC_bad (by decide)
    have C1 := Lib.hid C1
    go_enter Tryd.func18, Tryd.ntmps18
    go_wp2_with (first | (go_at_call 52; refine HCK.mono ?_; rintro e w1 ⟨rfl, hb1⟩) | (go_at_call 58; refine (checkRange_any _ _ _ _).mono ?_; rintro e w' ⟨rfl, rfl⟩; first | rw [C1.out]))
    exact bodyPost_ret (v := .tuple #[.slice none 0 0, .int .i64 1]) (by simp [results, Tryd.results18, go_sem]) rfl (givesL_nil HR.out hb1)
  | true =>
    rw [codeA_ok ho (by omega)] at HCK
    obtain ⟨p1, p2, p3⟩ := ok_parts ho
    by_cases hk : 0 ≤ k ∧ k ≤ (n : Int) - 1
    · have hk' : 0 ≤ k ∧ k ≤ (ss.length : Int) - 1 := by rw [hn.out]; exact hk
      have C1 : Hid (rangeC 0 k ((n : Int) - 1) = 0) := rangeC_in (inB_of hk)
      by_cases hr : 0 ≤ r ∧ r ≤ 8
      · obtain ⟨kn, rfl⟩ : ∃ kn : Nat, k = kn := ⟨k.toNat, by omega⟩
        obtain ⟨rn, rfl⟩ : ∃ rn : Nat, r = rn := ⟨r.toNat, by omega⟩
        have C2 : Hid (rangeC 0 (rn : Int) 8 = 0) := rangeC_in (inB_of hr)
        have HR := Lib.hid (misAns_ok ho hk' hr)
        rw [Int.toNat_natCast, hn.out] at HR
        have hkn : kn < ss.length := by rw [hn.out]; omega
        have hkn' : kn < n := by omega
        have hrn : rn ≤ 8 := by omega
        obtain ⟨l1, l8, hle⟩ := ok_first ho (by omega)
        obtain ⟨b, off, rfl, hb, hc⟩ := (HA.out w (Below.refl _ _)).addr (by omega)
        obtain ⟨u, hu⟩ : ∃ u, ss[kn] = u := ⟨_, rfl⟩
        have HCU : Hid (∀ W, Below w.heap.size w W → W.cell? ⟨b, off + kn, none⟩ = some (.string u)) := fun W hB => by rw [← hu]; exact (hB.cell (p := ⟨b, off + kn, none⟩) hb).trans (hc kn hkn)
        have hu8 : u.size = lenA ss := by rw [← hu]; exact hle _ (List.getElem_mem _)
        have hn40 : n ≤ 40 := by rw [← hn.out]; exact p3
        have hus : u.size ≤ 8 := by omega
        have HE : Hid (∀ t ∈ ss, t.size = u.size) := fun t ht => by rw [hle t ht, hu8]
        have HEND := Lib.hid (lessS_end (r := rn) (n := n) hkn hu (by omega) (by omega))
        have HBY := fun W hR => byDistance_any (some ⟨b, off, none⟩) ss u n ca W hn hR hn40 hus HE
        have HST := Lib.hid (fun j => lessS_step ss u j n)
        obtain ⟨V, hV⟩ : ∃ V : Nat → Nat, ∀ d, setD ss u d n = V d := ⟨_, fun _ => rfl⟩
        have HV9 := Lib.hid (setsV_nine ss u n V hV)
        have HVL : Hid (∀ d, V d < 1099511627776) := fun d => by rw [← hV]; exact setD_lt _ _ _ _ hn40
        simp only [hV] at HST
        obtain ⟨L, hL⟩ : ∃ L : Nat → Nat, ∀ j, lessS ss u j n = L j := ⟨_, fun _ => rfl⟩
        have HLL : Hid (∀ j, L j < 1099511627776) := fun j => by rw [← hL]; exact setN_lt64 _ hn40
        have HL0 : Hid (L 0 = 0) := by unfold Hid; rw [← hL]; exact lessS_zero _ _ _
        simp only [hL] at HST
        rw [hL] at HEND
        have hj0 : (0 : Int) ≤ (kn : Int) := by omega
        have hj1 : (kn : Int) < (n : Int) := by omega
        have hr0 : (0 : Int) ≤ (rn : Int) := by omega
        have hr1 : (rn : Int) ≤ 8 := by omega
        have hsl := slice_nine rn hrn
        clear hk hk' hr hc hle ho hu hV hL
        go_enter Tryd.func18, Tryd.ntmps18
        go_wp2_with (first | (go_at_call 52; refine HCK.mono ?_; rintro e w1 ⟨rfl, hb1⟩; have z1 := HCU.out w1 hb1) | (go_at_call 58; refine (checkRange_any _ _ _ _).mono ?_; rintro e w' ⟨rfl, rfl⟩; first | rw [C1.out] | rw [C2.out]) | (go_at_call 46; refine (HBY _ (HA.out _ hb1)).mono ?_; rintro e w3 ⟨rfl, hb3⟩; rw [HV9.out]))
        have HB3 := Lib.hid (two_worlds' hb1 hb3)
        have HW := Lib.hid (fun W => without_any (L (rn + 1)) kn (by have := HLL.out (rn + 1); omega) (by omega) W)
        rw [HEND.out] at HW
        have HNU := Lib.hid (fun W hTW => numbers_any (misP ss kn (rn : Int)) n W hn40 hTW)
        clear hb1 hb3 z1 HCK HBY HV9 hsl HEND
        go_loopw [11, 39] (fun xv jv wr => ∃ j : Nat, j ≤ rn + 1 ∧ jv = .int .i64 (j : Int) ∧ xv = .int .u64 ((L j : Nat) : Int) ∧ Hid (Below w.heap.size w wr) ∧ Hid (∀ j, j < 9 → wr.cell? ⟨w3.heap.size, j, none⟩ = some (.int .u64 ((V j : Nat) : Int)))) (fun _ jv _ => rn + 1 - (intOf jv).toNat)
        case atStart =>
          refine ⟨0, by omega, rfl, by rw [HL0.out]; rfl, HB3.out.alloc HB3.out.size _, ?_⟩
          intro j hj
          rw [cell_of_row _ _ _ _ _ _ (heap_alloc_new w3 _)]
          rcases (by omega : j = 0 ∨ j = 1 ∨ j = 2 ∨ j = 3 ∨ j = 4 ∨ j = 5 ∨ j = 6 ∨ j = 7 ∨ j = 8) with rfl | rfl | rfl | rfl | rfl | rfl | rfl | rfl | rfl <;> rfl
        case round =>
          obtain ⟨j, hj, rfl, rfl, HBW, HC9⟩ := hrel
          by_cases hlt : j < rn + 1
          · have x1 := HC9.out j (by omega)
            have hk0 : (0 : Int) ≤ (j : Int) := by omega
            have hk1 : (j : Int) < (rn : Int) + 1 := by omega
            have hor := orU (L j) (V j) (by have := HLL.out j; omega) (by have := HVL.out j; omega)
            rw [HST.out] at hor
            go_wp2
            go_roundw
            case rel => exact ⟨j + 1, by omega, by go_num, rfl, HBW.out, HC9.out⟩
            case measure => simp [intOf]; omega
          · have hjr : j = rn + 1 := by omega
            subst hjr
            have HLEN : Hid ((filtN (misP ss kn (rn : Int)) n).length ≤ n) := filtN_len _ _
            have hdec : decide (((rn + 1 : Nat) : Int) < (rn : Int) + 1) = false := by simp
            go_wp2_with (first | (go_at_call 59; refine (HW.out _).mono ?_; rintro e w7 ⟨rfl, rfl⟩) | (go_at_call 60; refine (HNU.out _ (HT.out _ HBW.out)).mono ?_; rintro e w8 ⟨hb8, ao, cap, rfl, ho8⟩))
            exact bodyPost_ret (v := .tuple #[.slice ao (filtN (misP ss kn (rn : Int)) n).length cap, .int .i64 0]) (by simp [results, Tryd.results18, go_sem]) rfl (givesL_of HR.out (two_worlds' HBW.out hb8) rfl (own_lower ho8 HBW.out.size))
      · have C2 : Hid (rangeC 0 r 8 = 2) := rangeC_out (inB_no hr)
        have HR := Lib.hid (misAns_r ho hk' hr)
        clear hk hk' hr
        go_enter Tryd.func18, Tryd.ntmps18
        go_wp2_with (first | (go_at_call 52; refine HCK.mono ?_; rintro e w1 ⟨rfl, hb1⟩) | (go_at_call 58; refine (checkRange_any _ _ _ _).mono ?_; rintro e w' ⟨rfl, rfl⟩; first | rw [C1.out] | rw [C2.out]))
        exact bodyPost_ret (v := .tuple #[.slice none 0 0, .int .i64 2]) (by simp [results, Tryd.results18, go_sem]) rfl (givesL_nil HR.out hb1)
    · have C1 : Hid (rangeC 0 k ((n : Int) - 1) = 2) := rangeC_out (inB_no hk)
      have C2 : Hid (rangeC 2 r 8 = 2) := rangeC_bad (by decide)
      have HR := Lib.hid (misAns_k (k := k) (r := r) ho (by rw [hn.out]; exact hk))
      clear hk
      go_enter Tryd.func18, Tryd.ntmps18
      go_wp2_with (first | (go_at_call 52; refine HCK.mono ?_; rintro e w1 ⟨rfl, hb1⟩) | (go_at_call 58; refine (checkRange_any _ _ _ _).mono ?_; rintro e w' ⟨rfl, rfl⟩; first | rw [C1.out] | rw [C2.out]))
      exact bodyPost_ret (v := .tuple #[.slice none 0 0, .int .i64 2]) (by simp [results, Tryd.results18, go_sem]) rfl (givesL_nil HR.out hb1)
end Go.Proofs.YtpkkibnpjhlfmaaDoor
