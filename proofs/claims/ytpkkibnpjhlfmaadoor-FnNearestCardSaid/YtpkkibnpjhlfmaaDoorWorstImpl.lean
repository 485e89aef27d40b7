/-
  WorstRing: the program's walk.
-/
import Derived.Test.YtpkkibnpjhlfmaaDoorWithout
namespace Go.Proofs.YtpkkibnpjhlfmaaDoor
open Go.RowKit

theorem ok_ascii {g : Int} {ss : List ByteArray} (h : okB g (bls ss) = true) (i : Nat) (hi : i < ss.length) (j : Nat) (hj : j < (ss[i]).size) : ((ss[i])[j]).toNat < 128 := by
  have h1 := (of_decide_eq_true h)
  obtain ⟨⟨h2, h4, _⟩, h5⟩ := h1
  have h6 := (h5 i (by rw [bls_length]; exact hi)).1
  rw [bls_get _ _ hi] at h6
  have := wordP_byte (wordB_iff.1 h6) j hj
  omega

set_option maxRecDepth 100000 in
set_option maxHeartbeats 8000000 in
theorem implWorst_any (g : Int) (a : Option Addr) (ss : List ByteArray) (n ca : Nat) (w : World) (hn : Hid (ss.length = n)) (ha : RS w a ss) (hmax : n ≤ 1048576) (hcap : n ≤ ca) (hcm : ca ≤ 9223372036854775807) (hsz : Hid (∀ s ∈ ss, s.size ≤ 1048576)) :
    Calls Tryd.prog 20 #[.int .i64 g, .slice a n ca] w fun e w' => e = .returned (.tuple #[.int .i64 (worstAns g ss).1, .int .i64 (worstAns g ss).2]) ∧ Below w.heap.size w w' := by
  have HV := checkA_any g a ss n ca 2 w hn ha hmax hcap hcm hsz
  have HA : Hid (∀ W, Below w.heap.size w W → RS W a ss) := fun W hB => ha.below hB
  clear ha
  cases ho : okB g (bls ss) with
  | false =>
    have HR := Lib.hid (worstAns_bad ho)
    rw [codeA_bad ho] at HV
    go_enter Tryd.func20, Tryd.ntmps20
    go_wp2_with (first | (go_at_call 52; refine HV.mono ?_; rintro e w1 ⟨rfl, hb1⟩))
    exact bodyPost_ret (v := .tuple #[.int .i64 0, .int .i64 1]) (by simp [results, Tryd.results20, go_sem]) rfl ⟨ret_pairI HR.out, hb1⟩
  | true =>
    obtain ⟨p1, p2, p3⟩ := ok_parts ho
    by_cases h2 : n < 2
    · have HR := Lib.hid (worstAns_few ho (by rw [hn.out]; exact h2))
      rw [codeA_few ho (by rw [hn.out]; omega)] at HV
      go_enter Tryd.func20, Tryd.ntmps20
      go_wp2_with (first | (go_at_call 52; refine HV.mono ?_; rintro e w1 ⟨rfl, hb1⟩))
      exact bodyPost_ret (v := .tuple #[.int .i64 0, .int .i64 3]) (by simp [results, Tryd.results20, go_sem]) rfl ⟨ret_pairI HR.out, hb1⟩
    · have HR := Lib.hid (worstAns_ok ho (by rw [hn.out]; exact h2))
      rw [codeA_ok ho (by rw [hn.out]; omega)] at HV
      obtain ⟨l1, l8, hle⟩ := ok_first ho (by rw [hn.out]; omega)
      obtain ⟨b, off, rfl, hb, hc⟩ := (HA.out w (Below.refl _ _)).addr (by rw [hn.out]; omega)
      have HC : Hid (∀ W, Below w.heap.size w W → ∀ i (h : i < ss.length), W.cell? ⟨b, off + i, none⟩ = some (.string ss[i])) := fun W hB i h => (hB.cell (p := ⟨b, off + i, none⟩) hb).trans (hc i h)
      obtain ⟨t0, ht0⟩ : ∃ t0, ss[0]'(by rw [hn.out]; omega) = t0 := ⟨_, rfl⟩
      have HZ0 : Hid (∀ W, Below w.heap.size w W → W.cell? ⟨b, off, none⟩ = some (.string t0)) := fun W hB => by have := HC.out W hB 0 (by rw [hn.out]; omega); rw [ht0] at this; exact this
      have HLA : Hid (lenA ss = t0.size) := by have := hle _ (List.getElem_mem (show 0 < ss.length by rw [hn.out]; omega)); rw [ht0] at this; exact this.symm
      have HAS : Hid (∀ j (hj : j < t0.size), (t0[j]).toNat < 128) := fun j hj => by
        subst ht0
        exact ok_ascii ho 0 (by rw [hn.out]; omega) j hj
      have hn40 : n ≤ 40 := by rw [← hn.out]; exact p3
      have hnp : (0 : Int) < (n : Int) := by omega
      rw [HLA.out] at l1 l8 hle HR
      have HLE := Lib.hid hle
      have HCUT : Hid (∀ r, r < t0.size → ringF ss r < 8) := fun r hr => cut_least hle hr l8 (by rw [hn.out]; omega)
      have HEV : Hid (∀ r, r < t0.size → Even (t0.size - 1) (cutS ss r)) := fun r hr => cutS_even hle hr l8
      clear hc ht0 hle ho
      go_enter Tryd.func20, Tryd.ntmps20
      go_wp2_with (first | (go_at_call 52; refine HV.mono ?_; rintro e w1 ⟨rfl, hb1⟩; have z1 := HZ0.out w1 hb1))
      have HB1 := Lib.hid hb1
      clear hb1 HV z1
      obtain ⟨wm, hwm⟩ : ∃ wm : World, wm = w1 := ⟨_, rfl⟩
      subst hwm
      go_loopw [7, 8] (fun wo lo w3 => ∃ (r B : Nat) (l : Int), r ≤ t0.size ∧ wo = .int .i64 (B : Int) ∧ lo = .int .i64 l ∧ Hid (w3.heap[wm.heap.size]? = some (.stringIter t0 r)) ∧ Hid (Below w.heap.size w w3) ∧ Hid (WR (ringF ss) 8 r B l)) (fun _ _ w3 => t0.size - w3.iterPos wm.heap.size)
      case atStart => exact ⟨0, 0, 8, by omega, rfl, rfl, World.iter_heap wm t0 0, HB1.out.alloc HB1.out.size _, WR_zero _ _⟩
      case round =>
        obtain ⟨r, B, l, hr, rfl, rfl, HIT, HB3, HWR⟩ := hrel
        by_cases hrl : r < t0.size
        · have hnx := fun ty => Lib.run_next_ascii_at (P := Tryd.prog) wr wm.heap.size t0 r ty HIT.out hrl (HAS.out r hrl)
          have HP1 : Hid (wr.iterPos wm.heap.size = r) := by unfold Hid World.iterPos; rw [HIT.out]
          have HB4 : Hid (Below w.heap.size w (wr.iterAt wm.heap.size t0 (r + 1))) := Lib.below_iterAt HB3.out (HB1.out.size) t0 (r + 1)
          have HIT4 : Hid ((wr.iterAt wm.heap.size t0 (r + 1)).heap[wm.heap.size]? = some (.stringIter t0 (r + 1))) := Lib.iterAt_heap wr _ t0 r (r + 1) HIT.out
          generalize wr.iterAt wm.heap.size t0 (r + 1) = w4 at hnx HB4 HIT4
          have HWO := fun W hB => withoutRing_any (some ⟨b, off, none⟩) ss n ca t0.size r W hn (HA.out W hB) hmax (by omega) hcap hcm HLE hrl l8
          have HEE := HEV.out r hrl
          have H8 := HCUT.out r hrl
          have HCL : Hid ((cutS ss r).length = n) := by unfold Hid; rw [cutS_len]; exact hn.out
          have HLB := fun W b' c' hR h1 h2 => leastB_any b' 0 (cutS ss r) n c' (t0.size - 1) W HCL hR hmax (by omega) h1 h2 HEE
          rw [show leastD (bls (cutS ss r)) = ringF ss r from rfl] at HLB
          have HLS := Lib.hid (fun h => WR_less HWR.out h)
          have HKP := Lib.hid (fun h => WR_keep HWR.out (by omega) h)
          generalize ringF ss r = d at HLB HLS HKP H8
          have HWO := Lib.hid HWO
          have HLB := Lib.hid HLB
          have HM5 : Hid (∀ w6 : World, Below w4.heap.size w4 w6 → w6.heap[wm.heap.size]? = some (.stringIter t0 (r + 1))) := fun w6 hB => (hB.block _ ((Array.getElem?_eq_some_iff.1 HIT4.out).1)).trans HIT4.out
          by_cases hd : (d : Int) < l
          · have HN := Lib.hid (HLS.out hd)
            have hd2 : decide ((d : Int) < l) = true := by simp; omega
            clear HLS HKP
            go_wp2_with (first | (go_at_call 63; refine (HWO.out _ HB4.out).mono ?_; rintro e w5 ⟨b5, c5, rfl, hc1, hc2, hb5, hr5⟩) | (go_at_call 62; refine (HLB.out _ _ _ hr5 hc1 hc2).mono ?_; rintro e w6 ⟨rfl, q, rfl⟩))
            have HI6 : Hid ((w5.drewN q).heap[wm.heap.size]? = some (.stringIter t0 (r + 1))) := HM5.out _ (Below.drewN' hb5 q)
            have HB6 : Hid (Below w.heap.size w (w5.drewN q)) := Below.drewN' (two_worlds' HB4.out hb5) q
            have HP6 : Hid ((w5.drewN q).iterPos wm.heap.size = r + 1) := by unfold Hid World.iterPos; rw [HI6.out]
            go_roundw
            case rel => exact ⟨r + 1, r, (d : Int), by omega, rfl, rfl, HI6.out, HB6.out, HN.out⟩
            case measure => have := HP6.out; have := HP1.out; omega
          · have HN := Lib.hid (HKP.out hd)
            have hd2 : decide ((d : Int) < l) = false := by simp; omega
            clear HLS HKP
            go_wp2_with (first | (go_at_call 63; refine (HWO.out _ HB4.out).mono ?_; rintro e w5 ⟨b5, c5, rfl, hc1, hc2, hb5, hr5⟩) | (go_at_call 62; refine (HLB.out _ _ _ hr5 hc1 hc2).mono ?_; rintro e w6 ⟨rfl, q, rfl⟩))
            have HI6 : Hid ((w5.drewN q).heap[wm.heap.size]? = some (.stringIter t0 (r + 1))) := HM5.out _ (Below.drewN' hb5 q)
            have HB6 : Hid (Below w.heap.size w (w5.drewN q)) := Below.drewN' (two_worlds' HB4.out hb5) q
            have HP6 : Hid ((w5.drewN q).iterPos wm.heap.size = r + 1) := by unfold Hid World.iterPos; rw [HI6.out]
            go_roundw
            case rel => exact ⟨r + 1, B, l, by omega, rfl, rfl, HI6.out, HB6.out, HN.out⟩
            case measure => have := HP6.out; have := HP1.out; omega
        · have hre : r = t0.size := by omega
          subst hre
          have hnx := fun ty => Lib.run_next_end_at (P := Tryd.prog) wr wm.heap.size t0 t0.size ty HIT.out (by omega)
          have HBE : Hid (B = (scanN (ringF ss) t0.size).1) := HWR.out.1
          rw [← HBE.out] at HR
          have hb1 := HB3.out
          go_wp2
          exact bodyPost_ret (v := .tuple #[.int .i64 (B : Nat), .int .i64 0]) (by simp [results, Tryd.results20, go_sem]) rfl ⟨ret_pairI HR.out, hb1⟩
end Go.Proofs.YtpkkibnpjhlfmaaDoor
