/-
  CriticalTubes: the model's walk and the program's.
-/
import Derived.Test.YtbndminegokffaaCritical
namespace Go.Proofs.Ytbndminegokffaa
open Go.RowKit

theorem size_allocK (w : World) (o : Obj) : (w.alloc o).heap.size = w.heap.size + 1 := by simp
set_option maxRecDepth 20000 in
set_option maxHeartbeats 4000000 in
theorem implCriticalTubesC_any (s : Int) (a : Option Addr) (ts : List T3) (n ca : Nat) (w : World) (hn : Hid (ts.length = n)) (ha : RT w a ts) (hcap : n ≤ ca) (hmax : n ≤ 1048576) :
    Calls Try.prog 6 #[.agg #[.int .i64 s, .slice a n ca]] w (GivesL (critOf s ts) w) := by
  have HA : Hid (∀ w', Below w.heap.size w w' → RT w' a ts) := fun w' h => ha.below h
  have HI : Hid (∃ i0 : TypeInfo, Try.prog.info? 2 = some i0 ∧ i0.zero = some (.int .i64 0) ∧ i0.size = 1 ∧ i0.bytes = 8) := info_parts infoI64f
  clear ha
  have OK : Hid (∀ W, Below w.heap.size w W → Calls Try.prog 15 #[.agg #[.int .i64 s, .slice a n ca]] W fun e w' => e = .returned (.bool (netB s ts)) ∧ Below W.heap.size W w') := fun W h => implValidNet_any s a ts n ca W hn (HA.out W h) hmax
  cases hv : netB s ts with
  | false =>
    rw [hv] at OK
    have HR := Lib.hid (critOf_bad hv)
    clear hv
    go_enter Try.func6, Try.ntmps6
    go_wp2_with (go_at_call 15; refine (OK.out _ (by repeat (first | exact Below.refl _ _ | refine Below.alloc ?_ (by simp; try omega) _ | refine Below.setCell ?_ (by simp; try omega) _))).mono ?_; rintro e w1 ⟨rfl, hb1⟩)
    go_ret2
    exact givesL_nil HR.out (two_worldsC (by repeat (first | exact Below.refl _ _ | refine Below.alloc ?_ (by simp; try omega) _ | refine Below.setCell ?_ (by simp; try omega) _)) hb1)
  | true =>
    obtain ⟨S, rfl⟩ := net_nat hv
    have hn24 : n ≤ 24 := by have := (netB_parts hv).2.2.1; rw [hn.out] at this; exact this
    have hS2 : 2 ≤ S := by have := (netB_parts hv).1; omega
    rw [hv] at OK
    have NAT := Lib.hid (nats_of hv)
    have HV := Lib.hid hv
    have TRS : Hid (∀ W, Below (w.alloc (.cells #[.int .i64 (S : Int), .slice a n ca] 26)).heap.size (w.alloc (.cells #[.int .i64 (S : Int), .slice a n ca] 26)) W → Below w.heap.size w W) := fun W hW => Below.trans (show Below w.heap.size w (w.alloc (.cells #[.int .i64 (S : Int), .slice a n ca] 26)) from (by repeat (first | exact Below.refl _ _ | refine Below.alloc ?_ (by simp; try omega) _ | refine Below.setCell ?_ (by simp; try omega) _))) (hW.mono (by simp))
    have CEL : Hid (∀ W, Below (w.alloc (.cells #[.int .i64 (S : Int), .slice a n ca] 26)).heap.size (w.alloc (.cells #[.int .i64 (S : Int), .slice a n ca] 26)) W → W.cell? ⟨w.heap.size, 0, none⟩ = some (.int .i64 (S : Int)) ∧ W.cell? ⟨w.heap.size, 1, none⟩ = some (.slice a n ca)) := fun W hW => ⟨(hW.cell (p := ⟨w.heap.size, 0, none⟩) (by simp)).trans (by simp [go_sem]), (hW.cell (p := ⟨w.heap.size, 1, none⟩) (by simp)).trans (by simp [go_sem])⟩
    have OKB := OK.out (w.alloc (.cells #[.int .i64 (S : Int), .slice a n ca] 26)) (by repeat (first | exact Below.refl _ _ | refine Below.alloc ?_ (by simp; try omega) _ | refine Below.setCell ?_ (by simp; try omega) _))
    have SM : ∀ W, Below w.heap.size w W → Calls Try.prog 16 #[.agg #[.int .i64 (S : Int), .slice a n ca]] W fun e w' => e = .returned (.bool (strongB ts (-1) S)) ∧ Below W.heap.size W w' := fun W h => isStrong_any S a ts n ca W hn (HA.out W h) hv
    cases hs : strongB ts (-1) S with
    | false =>
      have HR := Lib.hid (critOf_weak hv hs)
      rw [hs] at SM
      have HSM := Lib.hid SM
      clear hv hs SM OK
      go_enter Try.func6, Try.ntmps6
      go_wp2_with (first | (go_at_call 15; refine OKB.mono ?_; rintro e w1 ⟨rfl, hb1⟩; obtain ⟨r0, r1⟩ := CEL.out _ hb1) | (go_at_call 16; refine (HSM.out _ (TRS.out _ hb1)).mono ?_; rintro e w2 ⟨rfl, hb2⟩))
      go_ret2
      exact givesL_nil HR.out (TRS.out _ (two_worlds hb1 hb2))
    | true =>
      have HR := Lib.hid (critOf_good hv hs hn.out)
      have hn2 : 2 ≤ n := by have := strong_two NAT.out hS2 hs; rw [hn.out] at this; exact this
      rw [hs] at SM
      have HSM := Lib.hid SM
      clear hv hs SM OK
      go_enter Try.func6, Try.ntmps6
      go_wp2_with (first | (go_at_call 15; refine OKB.mono ?_; rintro e w1 ⟨rfl, hb1⟩; obtain ⟨r0, r1⟩ := CEL.out _ hb1) | (go_at_call 16; refine (HSM.out _ (TRS.out _ hb1)).mono ?_; rintro e w2 ⟨rfl, hb2⟩; have s1 := (CEL.out _ (two_worlds hb1 hb2)).2))
      have HB2 := Lib.hid (two_worlds hb1 hb2)
      clear OKB hb1 hb2 r0 r1 s1
      go_loopw [4, 15] (fun vo iv wr => ∃ (k m cap : Nat) (ao : Option Addr), k ≤ n ∧ m ≤ k ∧ vo = .slice ao m cap ∧ iv = .int .i64 (k : Int) ∧ Hid (Below (w.alloc (.cells #[.int .i64 (S : Int), .slice a n ca] 26)).heap.size (w.alloc (.cells #[.int .i64 (S : Int), .slice a n ca] 26)) wr) ∧ Hid ((critK ts S k).length = m) ∧ Hid (wr.ownsRow (w.alloc (.cells #[.int .i64 (S : Int), .slice a n ca] 26)).heap.size 2 1 (.slice ao m cap) m ((critK ts S k).map (Value.int .i64)))) (fun _ iv _ => n - (intOf iv).toNat)
      case atStart => exact ⟨0, 0, 0, none, by omega, by omega, rfl, rfl, HB2, by rw [critK_zero]; rfl, by rw [critK_zero]; exact World.ownsRow_nil _ _ _ _⟩
      case round =>
        clear HB2
        obtain ⟨k, m, cap, ao, hk, hmk, rfl, rfl, HB, HLEN, HO⟩ := hrel
        obtain ⟨r0, r1⟩ := CEL.out _ HB.out
        have hz : (w.alloc (.cells #[.int .i64 (S : Int), .slice a n ca] 26)).heap.size ≤ wr.heap.size := HB.out.size
        have hz0 : w.heap.size + 1 ≤ wr.heap.size := by simpa using hz
        have hk0 : (0 : Int) ≤ (k : Int) := by omega
        by_cases hlt : k < n
        · have hk1 : (k : Int) < (n : Int) := by omega
          have WT := withoutTube_any S k a ts n ca wr hn (HA.out _ (TRS.out _ HB.out)) hcap hlt hn2 hn24
          have SO := strong_out hn.out hlt NAT.out
          have HOL : Hid ((outT ts k).length = n - 1) := outT_len hn.out hlt
          have HOV := Lib.hid (net_out (i := k) HV.out)
          have IS : Hid (∀ g c W, RT W (some ⟨g, 0, none⟩) (outT ts k) → Calls Try.prog 16 #[.agg #[.int .i64 (S : Int), .slice (some ⟨g, 0, none⟩) (n - 1) c]] W fun e w' => e = .returned (.bool (strongB ts (k : Int) S)) ∧ Below W.heap.size W w') := fun g c W hRT => by
            have := isStrong_any S (some ⟨g, 0, none⟩) (outT ts k) (n - 1) c W HOL hRT HOV.out
            rwa [SO] at this
          clear SO
          cases hs : strongB ts (k : Int) S with
          | true =>
            rw [hs] at IS
            have HN := Lib.hid (critK_no hs)
            clear hs
            go_wp2_with (first | (go_at_call 17; refine WT.mono ?_; rintro e w3 ⟨g3, c3, rfl, hb3, hrt3⟩) | (go_at_call 16; refine (IS.out g3 c3 w3 hrt3).mono ?_; rintro e w4 ⟨rfl, hb4⟩))
            have hb34 := two_worlds hb3 hb4
            have HB3 := Lib.hid (HB.out.trans (hb34.mono hz))
            have HO3 := Lib.hid (own_belowF HO.out hb34)
            clear hb3 hb4 hb34 hrt3 WT IS r0 r1
            go_wp2
            go_roundw
            case rel => exact ⟨k + 1, m, cap, ao, by omega, by omega, rfl, by go_num, HB3.out, by rw [HN.out]; exact HLEN.out, by rw [HN.out]; exact HO3.out⟩
            case measure => simp [intOf]; omega
          | false =>
            rw [hs] at IS
            have HN := Lib.hid (critK_yes hs)
            clear hs
            go_wp2_with (first | (go_at_call 17; refine WT.mono ?_; rintro e w3 ⟨g3, c3, rfl, hb3, hrt3⟩) | (go_at_call 16; refine (IS.out g3 c3 w3 hrt3).mono ?_; rintro e w4 ⟨rfl, hb4⟩; have hb34 := two_worlds hb3 hb4; have hz5 : wr.heap.size ≤ w4.heap.size := hb34.size) | (at_builtin; refine wpList_append_lies _ rfl _ _ 28 rfl (w.alloc (.cells #[.int .i64 (S : Int), .slice a n ca] 26)).heap.size 2 HI.out.choose (.int .i64 0) 1 8 Try.underlying28 HI.out.choose_spec.1 HI.out.choose_spec.2.1 HI.out.choose_spec.2.2.1 HI.out.choose_spec.2.2.2 rfl (by decide) (.slice ao m cap) m _ rfl ((own_belowF HO.out hb34).alloc _) ⟨w4.heap.size, 0, none⟩ 1 1 [.int .i64 (k : Int)] rfl rfl (World.news_of_block (heap_alloc_new w4 _)) (by intro u hu; simp at hu; subst hu; rfl) (by omega) (by unfold maxLen; omega) (by omega) (by simp; omega) _ rfl ?_))
            intro g6 c6 w6 ho6 hgr6 hat6 hlt6
            have HB3 := Lib.hid (HB.out.trans (hb34.mono hz))
            have hz3 : (w.alloc (.cells #[.int .i64 (S : Int), .slice a n ca] 26)).heap.size ≤ w4.heap.size := HB3.out.size
            have hz4 : w.heap.size + 1 ≤ w4.heap.size := by simpa using hz3
            have B4 : Hid (Below (w.alloc (.cells #[.int .i64 (S : Int), .slice a n ca] 26)).heap.size (w.alloc (.cells #[.int .i64 (S : Int), .slice a n ca] 26)) w6) := (HB3.out.alloc hz3 _).grown hgr6 (by simp; omega) (fun p hp => own_lo_block HO.out hp)
            have O4 : Hid (w6.ownsRow (w.alloc (.cells #[.int .i64 (S : Int), .slice a n ca] 26)).heap.size 2 1 (.slice (some ⟨g6, 0, none⟩) (m + 1) c6) (m + 1) ((critK ts S (k + 1)).map (Value.int .i64))) := by
              unfold Hid; rw [HN.out, List.map_append, size_allocK]; exact ho6
            have HL4 : Hid ((critK ts S (k + 1)).length = m + 1) := by unfold Hid; rw [HN.out, List.length_append, HLEN.out]; rfl
            clear ho6 hgr6 hat6 hlt6 hb3 hb4 hb34 hrt3 WT IS r0 r1
            go_wp2
            go_roundw
            case rel => exact ⟨k + 1, m + 1, c6, _, by omega, by omega, rfl, by go_num, B4.out, HL4.out, O4.out⟩
            case measure => simp [intOf]; omega
        · have hkn : k = n := by omega
          subst hkn
          have HR2 : Hid (GivesL (critOf (S : Int) ts) w (.returned (.tuple #[.slice ao m cap, .int .i64 0])) wr) := givesL_of HR.out (TRS.out _ HB.out) HLEN.out (own_lo HO.out (by simp))
          go_wp2
          go_ret2
          exact HR2.out
theorem implCriticalTubes_any (s : Int) (a : Option Addr) (ts : List T3) (n : Nat) (w : World) (hn : Hid (ts.length = n)) (ha : RT w a ts) (hmax : n ≤ 1048576) :
    Calls Try.prog 6 #[.agg #[.int .i64 s, .slice a n n]] w (GivesL (critOf s ts) w) := implCriticalTubesC_any s a ts n n w hn ha (Nat.le_refl _) hmax
end Go.Proofs.Ytbndminegokffaa
