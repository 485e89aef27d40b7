/-
  WorstRing: what it answers, and the model's walk.
-/
import Derived.Test.YtpkkibnpjhlfmaaDoorAddAdr
import Derived.Test.YtpkkibnpjhlfmaaDoorLeastAns
import Derived.Test.YtpkkibnpjhlfmaaDoorNearMath
import Derived.Test.YtpkkibnpjhlfmaaDoorAllWords
namespace Go.Proofs.YtpkkibnpjhlfmaaDoor
open Go.RowKit

/-- A word without its letter at a place. -/
def cutB (r : Nat) (s : ByteArray) : ByteArray := ⟨((bl s).take r ++ (bl s).drop (r + 1)).toArray⟩
theorem bl_cutB (r : Nat) (s : ByteArray) : bl (cutB r s) = (bl s).take r ++ (bl s).drop (r + 1) := by simp [cutB]
theorem cutB_size {r : Nat} {s : ByteArray} (h : r < s.size) : (cutB r s).size = s.size - 1 := by
  rw [← bl_length, bl_cutB, List.length_append, List.length_take, List.length_drop, bl_length]; omega
theorem extract_list (s : ByteArray) (a b : Nat) : bl (s.extract a b) = ((bl s).take b).drop a := by
  simp [bl, ByteArray.data_extract, Array.toList_extract, List.drop_take]
theorem cutB_eq {r : Nat} {s : ByteArray} (_h : r < s.size) : s.extract 0 r ++ s.extract (r + 1) s.size = cutB r s := by
  apply bl_inj
  rw [bl_cutB]
  show (s.extract 0 r ++ s.extract (r + 1) s.size).data.toList = _
  rw [ByteArray.data_append, Array.toList_append]
  show bl (s.extract 0 r) ++ bl (s.extract (r + 1) s.size) = _
  rw [extract_list, extract_list, List.drop_zero, ← bl_length s, List.take_length]
def cutS (ss : List ByteArray) (r : Nat) : List ByteArray := ss.map (cutB r)
theorem cutS_len (ss : List ByteArray) (r : Nat) : (cutS ss r).length = ss.length := by simp [cutS]
theorem cutS_even {ss : List ByteArray} {r L : Nat} (hE : ∀ s ∈ ss, s.size = L) (hr : r < L) (h8 : L ≤ 8) : Even (L - 1) (cutS ss r) := by
  refine ⟨by omega, fun t ht => ?_⟩
  obtain ⟨s, hs, rfl⟩ := List.mem_map.1 ht
  have := hE s hs
  rw [cutB_size (by omega), this]
theorem cutS_take {ss : List ByteArray} {r i : Nat} {t : ByteArray} (hi : i < ss.length) (e : ss[i] = t) : ((ss.take (i + 1)).map (cutB r)).map Value.string = ((ss.take i).map (cutB r)).map Value.string ++ [.string (cutB r t)] := by
  rw [List.take_succ_eq_append_getElem hi, e]; simp
theorem leastD_pair {ws : List (List UInt8)} {m : Nat} (hm : m < 9) (h : HasPair ws m) : leastD ws ≤ m := by
  unfold leastD
  cases hf : (List.range 9).find? fun m => decide (HasPair ws m) with
  | none =>
    have := List.find?_eq_none.1 hf m (by simpa using hm)
    simp at this
    exact absurd h this
  | some k =>
    obtain ⟨hk, i, hi, e, hb⟩ := List.find?_eq_some_iff_getElem.1 hf
    simp only [List.getElem_range] at e hb
    subst e
    show i ≤ m
    apply Nat.le_of_not_lt
    intro hlt
    have := hb m hlt
    simp [h] at this
theorem cut_least {ss : List ByteArray} {r L : Nat} (hE : ∀ s ∈ ss, s.size = L) (hr : r < L) (h8 : L ≤ 8) (h2 : 2 ≤ ss.length) : leastD (bls (cutS ss r)) < 8 := by
  have hev := cutS_even hE hr h8
  have hl : (cutS ss r).length = ss.length := cutS_len ss r
  have h1 : 1 < (cutS ss r).length := by omega
  have h0 : 0 < (cutS ss r).length := by omega
  have hle := farL_le (bl (cutS ss r)[1]) (bl (cutS ss r)[0])
  rw [bl_length, hev.at 1 h1] at hle
  have := leastD_pair (ws := bls (cutS ss r)) (m := farL (bl (cutS ss r)[1]) (bl (cutS ss r)[0])) (by omega) ⟨1, by rw [bls_length]; exact h1, 0, by omega, by rw [bls_get _ 1 h1, bls_get _ 0 h0]⟩
  omega
def ringF (ss : List ByteArray) (r : Nat) : Nat := leastD (bls (cutS ss r))
def worstAns (g : Int) (ss : List ByteArray) : Int × Int := if okB g (bls ss) = true then (if ss.length < 2 then (0, 3) else ((((scanN (ringF ss) (lenA ss)).1 : Nat) : Int), 0)) else (0, 1)
theorem worstAns_bad {g : Int} {ss : List ByteArray} (h : okB g (bls ss) = false) : worstAns g ss = (0, 1) := by unfold worstAns; rw [if_neg (by rw [h]; simp)]
theorem worstAns_few {g : Int} {ss : List ByteArray} (h : okB g (bls ss) = true) (h2 : ss.length < 2) : worstAns g ss = (0, 3) := by unfold worstAns; rw [if_pos h, if_pos h2]
theorem worstAns_ok {g : Int} {ss : List ByteArray} (h : okB g (bls ss) = true) (h2 : ¬ ss.length < 2) : worstAns g ss = ((((scanN (ringF ss) (lenA ss)).1 : Nat) : Int), 0) := by unfold worstAns; rw [if_pos h, if_neg h2]
/-- The walk for the least ring: 'k' rings are done, 'b' is the best one, 'l' its distance (at first a bound above all). -/
def WR (f : Nat → Nat) (top : Int) (k b : Nat) (l : Int) : Prop := b = (scanN f k).1 ∧ (k = 0 ∧ l = top ∨ 0 < k ∧ l = ((f b : Nat) : Int))
theorem WR_zero (f : Nat → Nat) (top : Int) : WR f top 0 0 top := ⟨rfl, .inl ⟨rfl, rfl⟩⟩
theorem WR_less {f : Nat → Nat} {top : Int} {k b : Nat} {l : Int} (h : WR f top k b l) (hl : ((f k : Nat) : Int) < l) : WR f top (k + 1) k ((f k : Nat) : Int) := by
  obtain ⟨h1, h2⟩ := h
  refine ⟨?_, .inr ⟨by omega, rfl⟩⟩
  rcases h2 with ⟨h3, h4⟩ | ⟨h3, h4⟩
  · subst h3; rw [scanN_same (show f 0 = f (scanN f 0).1 from rfl)]; rfl
  · rw [scanN_less (by rw [← h1]; omega)]
theorem WR_keep {f : Nat → Nat} {top : Int} {k b : Nat} {l : Int} (h : WR f top k b l) (ht : ((f k : Nat) : Int) < top) (hl : ¬ ((f k : Nat) : Int) < l) : WR f top (k + 1) b l := by
  obtain ⟨h1, h2⟩ := h
  rcases h2 with ⟨h3, h4⟩ | ⟨h3, h4⟩
  · omega
  · refine ⟨?_, .inr ⟨by omega, h4⟩⟩
    rcases Nat.lt_trichotomy (f k) (f (scanN f k).1) with h | h | h
    · rw [h1] at h4; omega
    · rw [scanN_same h]; exact h1
    · rw [scanN_more h]; exact h1

set_option maxRecDepth 100000 in
set_option maxHeartbeats 8000000 in
theorem specWorst_any (g : Int) (a : Option Addr) (ss : List ByteArray) (n ca : Nat) (w : World) (hn : Hid (ss.length = n)) (ha : RS w a ss) (hmax : n ≤ 1048576) (hsz : Hid (∀ s ∈ ss, s.size ≤ 1048576)) :
    Calls Tryd.prog 21 #[.int .i64 g, .slice a n ca] w fun e w' => e = .returned (.tuple #[.int .i64 (worstAns g ss).1, .int .i64 (worstAns g ss).2]) ∧ Below w.heap.size w w' := by
  have HV := l05Ok_any g a ss n ca w hn ha hmax hsz
  have HA : Hid (∀ W, Below w.heap.size w W → RS W a ss) := fun W hB => ha.below hB
  have HI : Hid (∃ i0 : TypeInfo, Tryd.prog.info? 9 = some i0 ∧ i0.zero = some (.string ByteArray.empty) ∧ i0.size = 1 ∧ i0.bytes = 16) := info_parts info9
  clear ha
  cases ho : okB g (bls ss) with
  | false =>
    have HR := Lib.hid (worstAns_bad ho)
    rw [ho] at HV
    go_enter Tryd.func21, Tryd.ntmps21
    go_wp2_with (first | (go_at_call 49; refine HV.mono ?_; rintro e w1 ⟨rfl, hb1⟩))
    exact bodyPost_ret (v := .tuple #[.int .i64 0, .int .i64 1]) (by simp [results, Tryd.results21, go_sem]) rfl ⟨ret_pairI HR.out, hb1⟩
  | true =>
    rw [ho] at HV
    obtain ⟨p1, p2, p3⟩ := ok_parts ho
    by_cases h2 : n < 2
    · have HR := Lib.hid (worstAns_few ho (by rw [hn.out]; exact h2))
      go_enter Tryd.func21, Tryd.ntmps21
      go_wp2_with (first | (go_at_call 49; refine HV.mono ?_; rintro e w1 ⟨rfl, hb1⟩))
      exact bodyPost_ret (v := .tuple #[.int .i64 0, .int .i64 3]) (by simp [results, Tryd.results21, go_sem]) rfl ⟨ret_pairI HR.out, hb1⟩
    · have HR := Lib.hid (worstAns_ok ho (by rw [hn.out]; exact h2))
      obtain ⟨l1, l8, hle⟩ := ok_first ho (by rw [hn.out]; omega)
      obtain ⟨b, off, rfl, hb, hc⟩ := (HA.out w (Below.refl _ _)).addr (by rw [hn.out]; omega)
      have HC : Hid (∀ W, Below w.heap.size w W → ∀ i (h : i < ss.length), W.cell? ⟨b, off + i, none⟩ = some (.string ss[i])) := fun W hB i h => (hB.cell (p := ⟨b, off + i, none⟩) hb).trans (hc i h)
      obtain ⟨t0, ht0⟩ : ∃ t0, ss[0]'(by rw [hn.out]; omega) = t0 := ⟨_, rfl⟩
      have HLA := Lib.hid (getD0 (by rw [hn.out]; omega) ht0)
      have HZ0 : Hid (∀ W, Below w.heap.size w W → W.cell? ⟨b, off, none⟩ = some (.string t0)) := fun W hB => by have := HC.out W hB 0 (by rw [hn.out]; omega); rw [ht0, Nat.add_zero] at this; exact this
      have hn40 : n ≤ 40 := by rw [← hn.out]; exact p3
      have hnp : (0 : Int) < (n : Int) := by omega
      rw [HLA.out] at l1 l8 hle HR
      have HLE := Lib.hid hle
      have HCUT : Hid (∀ r, r < t0.size → ringF ss r < 8) := fun r hr => cut_least hle hr l8 (by rw [hn.out]; omega)
      have HEV : Hid (∀ r, r < t0.size → Even (t0.size - 1) (cutS ss r)) := fun r hr => cutS_even hle hr l8
      clear hc ht0 hle ho
      go_enter Tryd.func21, Tryd.ntmps21
      go_wp2_with (first | (go_at_call 49; refine HV.mono ?_; rintro e w1 ⟨rfl, hb1⟩))
      have HB1 := Lib.hid hb1
      clear hb1 HV
      go_loopw [6, 7, 8] (fun bv lv rv wr => ∃ (r B : Nat) (l : Int), r ≤ t0.size ∧ rv = .int .i64 (r : Int) ∧ bv = .int .i64 (B : Int) ∧ lv = .int .i64 l ∧ Hid (WR (ringF ss) 9 r B l) ∧ Hid (Below w.heap.size w wr)) (fun _ _ rv _ => t0.size - (intOf rv).toNat)
      case atStart => exact ⟨0, 0, 9, by omega, rfl, rfl, rfl, WR_zero _ _, HB1.out⟩
      case round =>
        obtain ⟨r, B, l, hr, rfl, rfl, rfl, HWR, HBW⟩ := hrel
        have z1 := HZ0.out wr HBW.out
        by_cases hrl : r < t0.size
        · have hr1 : (r : Int) < (t0.size : Int) := by omega
          have HW0 : Hid (w.heap.size ≤ wr.heap.size) := HBW.out.size
          obtain ⟨wo, hwo⟩ : ∃ wo, wo = wr := ⟨_, rfl⟩
          subst hwo
          go_wp2_with fail
          go_loopw [9, 10] (fun vo iv wi => ∃ (i cap : Nat) (ao : Option Addr), i ≤ n ∧ vo = .slice ao i cap ∧ iv = .int .i64 (i : Int) ∧ Hid (Below wo.heap.size wo wi) ∧ Hid (wi.ownsRow wo.heap.size 9 1 (.slice ao i cap) i (((ss.take i).map (cutB r)).map Value.string))) (fun _ iv _ => n - (intOf iv).toNat)
          case atStart => exact ⟨0, 0, _, by omega, rfl, rfl, (by repeat (first | exact Below.refl _ _ | refine Below.alloc ?_ (by simp; try omega) _ | refine Below.setCell ?_ (by simp; try omega) _)), World.ownsRow_made wo #[] 0 (Nat.le_refl _) (by unfold maxLen; omega) rfl⟩
          case round =>
            obtain ⟨i, cap, ao, hi, rfl, rfl, HBI, HOI⟩ := hrel
            have HB2 : Hid (Below w.heap.size w wr) := two_worlds' HBW.out HBI.out
            by_cases hil : i < n
            · have hia : i < ss.length := by rw [hn.out]; exact hil
              obtain ⟨t, ht⟩ : ∃ t, ss[i] = t := ⟨_, rfl⟩
              have x1 := HC.out _ HB2.out i hia
              rw [ht] at x1
              have hts : t.size = t0.size := by rw [← ht]; exact HLE.out _ (List.getElem_mem _)
              have HTK := Lib.hid (cutS_take (r := r) hia ht)
              have hce := cutB_eq (r := r) (s := t) (by omega)
              have hadd := fun W : World => run_string_add (P := Tryd.prog) W (t.extract 0 r) (t.extract (r + 1) t.size) (by rw [ByteArray.size_extract]; omega) (by rw [ByteArray.size_extract]; omega)
              rw [hce] at hadd
              have hk0 : (0 : Int) ≤ (i : Int) := by omega
              have hk1 : (i : Int) < (n : Int) := by omega
              have hr0 : (0 : Int) ≤ (r : Int) := by omega
              have hr2 : (r : Int) ≤ (t.size : Int) := by omega
              have hr3 : (r : Int) + 1 ≤ (t.size : Int) := by omega
              generalize ((ss.take i).map (cutB r)).map Value.string = xs at HOI HTK
              have HGE : Hid (∀ q, (Value.slice ao i cap).ownBlock = some q → wo.heap.size ≤ q) := fun q hq => (HOI.out.lt q hq).1
              have hbw : b < wr.heap.size := Nat.lt_of_lt_of_le hb HB2.out.size
              have hwr : IntKind.i64.wrap ((r : Int) + 1) = ((r + 1 : Nat) : Int) := by rw [IntKind.wrap_i64]; omega
              have hr5 : (0 : Int) ≤ (r : Int) + 1 := by omega
              have hr4 : ((r + 1 : Nat) : Int) ≤ (t.size : Int) := by omega
              clear ht hce hts
              go_wp2_with fail
              go_region_law (first | (refine step_append_lies _ (by rfl) _ _ 24 (by rfl) wo.heap.size 9 HI.out.choose (.string ByteArray.empty) 1 16 Tryd.underlying24 HI.out.choose_spec.1 HI.out.choose_spec.2.1 HI.out.choose_spec.2.2.1 HI.out.choose_spec.2.2.2 rfl (by decide) (.slice ao i cap) i xs (by rfl) (HOI.out.alloc _) _ 1 1 [.string (cutB r t)] (by rfl) rfl ?_ (one_strG _) (by omega) (by unfold maxLen; omega) (by omega) ?_ _ rfl ?_; (next => (intro j u hj; match j, hj with | 0, hj => (simp at hj; subst hj; simp [Addr.add, go_sem]))); (next => (have := HBI.out.size; first | (simp; done) | (simp; omega))); intro g' cap' w5 hown1 hgrow hat hlt2))
              all_goals
                have B5 : Hid (Below wo.heap.size wo w5) := (two_worlds' HBI.out (show Below wr.heap.size wr _ from (by (repeat (first | exact Below.refl _ _ | refine Below.drew ?_ | refine Below.drewN' ?_ _ | refine Below.alloc ?_ (by first | (simp; done) | (simp; omega)) _ | refine Below.setCell ?_ (by first | (simp; done) | (simp; omega)) _)); done))).grown hgrow (by have := HBI.out.size; simp; omega) HGE.out
                have O5 : Hid (w5.ownsRow wo.heap.size 9 1 (.slice (some ⟨g', 0, none⟩) (i + 1) cap') (i + 1) (((ss.take (i + 1)).map (cutB r)).map Value.string)) := by
                  unfold Hid; rw [HTK.out]; exact hown1
                clear hown1 hgrow hat hlt2 hadd
                go_wp2
                go_roundw
                case rel => exact ⟨i + 1, cap', _, by omega, rfl, by go_num, B5.out, O5.out⟩
                case measure => simp [intOf]; omega
            · have hin : i = n := by omega
              subst hin
              have OI : Hid (wr.ownsRow wo.heap.size 9 1 (.slice ao i cap) i ((cutS ss r).map Value.string)) := by
                have : ss.take i = ss := by rw [← hn.out]; exact List.take_length
                unfold Hid cutS
                have h := HOI.out
                rw [this] at h
                exact h
              have HCL : Hid ((cutS ss r).length = i) := by unfold Hid; rw [cutS_len]; exact hn.out
              have HL5 := fun W hR => l05Least_any ao (cutS ss r) i cap (t0.size - 1) W HCL hR (by omega) (by omega) (HEV.out r hrl)
              have H8 := HCUT.out r hrl
              rw [show leastD (bls (cutS ss r)) = ringF ss r from rfl] at HL5
              have HLS := Lib.hid (fun h => WR_less HWR.out h)
              have HKP := Lib.hid (fun h => WR_keep HWR.out (by omega) h)
              generalize ringF ss r = d at HL5 HLS HKP H8
              have HRS := Lib.hid (rowS_RS HCL OI.out)
              by_cases hd : (d : Int) < l
              · have HN := Lib.hid (HLS.out hd)
                have hd2 : decide ((d : Int) < l) = true := by simp; omega
                clear HLS HKP
                go_wp2_with (go_at_call 54; refine (HL5 _ HRS.out).mono ?_; rintro e w6 ⟨rfl, q, rfl⟩)
                go_roundw
                case rel => exact ⟨r + 1, r, (d : Int), by omega, by go_num, rfl, rfl, HN.out, Below.drewN' HB2.out _⟩
                case measure => simp [intOf]; omega
              · have HN := Lib.hid (HKP.out hd)
                have hd2 : decide ((d : Int) < l) = false := by simp; omega
                clear HLS HKP
                go_wp2_with (go_at_call 54; refine (HL5 _ HRS.out).mono ?_; rintro e w6 ⟨rfl, q, rfl⟩)
                go_roundw
                case rel => exact ⟨r + 1, B, l, by omega, by go_num, rfl, rfl, HN.out, Below.drewN' HB2.out _⟩
                case measure => simp [intOf]; omega
        · have hre : r = t0.size := by omega
          subst hre
          have HBE : Hid (B = (scanN (ringF ss) t0.size).1) := HWR.out.1
          rw [← HBE.out] at HR
          have hb1 := HBW.out
          go_wp2
          exact bodyPost_ret (v := .tuple #[.int .i64 (B : Nat), .int .i64 0]) (by simp [results, Tryd.results21, go_sem]) rfl ⟨ret_pairI HR.out, hb1⟩
end Go.Proofs.YtpkkibnpjhlfmaaDoor
