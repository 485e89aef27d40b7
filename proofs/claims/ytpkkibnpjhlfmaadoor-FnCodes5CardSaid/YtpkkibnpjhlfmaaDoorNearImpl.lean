/-
  NearestAddress: the program's walk.
-/
import Derived.Test.YtpkkibnpjhlfmaaDoorNear
import Derived.Test.YtpkkibnpjhlfmaaDoorDistance
namespace Go.Proofs.YtpkkibnpjhlfmaaDoor
open Go.RowKit

theorem BitTab.below {w w' : World} (h : BitTab w) (hb : Below w.heap.size w w') : BitTab w' := fun j hj => (hb.cell (World.block_lt_of_cell? w _ (h j hj))).trans (h j hj)
theorem near_facts (ss : List ByteArray) (s : ByteArray) {n : Nat} (h40 : n ≤ 40) (h0 : 0 < n) (B M m : Nat) (hr : scanN (farS ss s) n = (B, M)) (hm : farS ss s B = m) :
    (∀ k, k < m → setD ss s k n = 0) ∧ setD ss s m n ≠ 0 ∧ popA 64 (setD ss s m n) = M ∧ Lib.ctz 64 (setD ss s m n) = B := by
  have h := scanN_at (farS ss s) h0
  rw [hr] at h
  obtain ⟨h1, h2, h3, h4⟩ := h
  simp only at h1 h2 h3 h4
  rw [hm] at h2 h3 h4
  refine ⟨fun k hk => setN_zero.2 fun i hi => ?_, fun h => ?_, ?_, ctz_setN h40 h1 (by simp [hm]) fun i hi => ?_⟩
  · have := h2 i hi
    simp; omega
  · have := setN_zero.1 h B h1
    simp [hm] at this
  · rw [h4]; exact pop_setN _ n (by omega)
  · have := h3 i hi
    simp; omega
theorem setsV_nine (ss : List ByteArray) (s : ByteArray) (n : Nat) (V : Nat → Nat) (h : ∀ d, setD ss s d n = V d) : (setsV ss s n).toArray = #[.int .u64 ((V 0 : Nat) : Int), .int .u64 ((V 1 : Nat) : Int), .int .u64 ((V 2 : Nat) : Int), .int .u64 ((V 3 : Nat) : Int), .int .u64 ((V 4 : Nat) : Int), .int .u64 ((V 5 : Nat) : Int), .int .u64 ((V 6 : Nat) : Int), .int .u64 ((V 7 : Nat) : Int), .int .u64 ((V 8 : Nat) : Int)] := by
  have : setsV ss s n = (List.range 9).map fun d => .int .u64 ((V d : Nat) : Int) := by unfold setsV; simp only [h]
  rw [this]; rfl

set_option maxRecDepth 100000 in
set_option maxHeartbeats 8000000 in
theorem implNear_any (g : Int) (a : Option Addr) (ss : List ByteArray) (n ca : Nat) (s : ByteArray) (w : World) (hn : Hid (ss.length = n)) (ha : RS w a ss) (hmax : n ≤ 1048576) (hcap : n ≤ ca) (hcm : ca ≤ 9223372036854775807) (hsz : Hid (∀ s ∈ ss, s.size ≤ 1048576)) (hs : s.size ≤ 1048576) (hT : BitTab w) :
    Calls Tryd.prog 8 #[.int .i64 g, .slice a n ca, .string s] w (Trip (nearAns g ss s) w) := by
  have HV := implValid_any g a ss n ca w hn ha hmax hcap hcm hsz
  have HA : Hid (∀ W, Below w.heap.size w W → RS W a ss) := fun W hB => ha.below hB
  have HT : Hid (∀ W, Below w.heap.size w W → BitTab W) := fun W hB => hT.below hB
  have HS : Hid (∀ t ∈ [s], t.size ≤ 1048576) := by unfold Hid; simp; exact hs
  clear ha hT
  cases ho : okB g (bls ss) with
  | false =>
    have HR := Lib.hid (nearAns_bad (s := s) ho)
    rw [ho] at HV
    go_enter Tryd.func8, Tryd.ntmps8
    go_wp2_with (first | (go_at_call 23; refine HV.mono ?_; rintro e w1 ⟨rfl, hb1⟩))
    exact bodyPost_ret (v := .tuple #[.int .i64 0, .int .i64 0, .int .i64 1]) (by simp [results, Tryd.results8, go_sem]) rfl (trip_of HR.out hb1)
  | true =>
    rw [ho] at HV
    obtain ⟨p1, p2, p3⟩ := ok_parts ho
    obtain ⟨gn, rfl⟩ : ∃ gn : Nat, g = gn := ⟨g.toNat, by omega⟩
    have hg : gn = 2 ∨ gn = 3 ∨ gn = 4 := by omega
    have HTW : Hid (allWords gn [s] = wordB gn (bl s)) := by unfold Hid; simp [allWords]
    cases hw : wordB gn (bl s) with
    | false =>
      have HR := Lib.hid (nearAns_word ho (by rw [Int.toNat_natCast]; exact hw))
      rw [hw] at HTW
      go_enter Tryd.func8, Tryd.ntmps8
      go_wp2_with (first | (go_at_call 23; refine HV.mono ?_; rintro e w1 ⟨rfl, hb1⟩) | (go_at_call 45; refine (areWords_any gn hg _ [s] 1 _ _ rfl (RS.block _ [s] 9) (by omega) HS).mono ?_; rintro e w2 ⟨rfl, hb2⟩; rw [HTW.out]; have hb2 : Below w.heap.size w w2 := (hb1.alloc hb1.size _).trans (hb2.mono (by have := hb1.size; simp; omega))))
      exact bodyPost_ret (v := .tuple #[.int .i64 0, .int .i64 0, .int .i64 2]) (by simp [results, Tryd.results8, go_sem]) rfl (trip_of HR.out hb2)
    | true =>
      rw [hw] at HTW
      have hw' : wordB (gn : Int).toNat (bl s) = true := by rw [Int.toNat_natCast]; exact hw
      by_cases h0 : n = 0
      · have HR := Lib.hid (nearAns_none ho hw' (by rw [hn.out]; exact h0))
        have hn0 : ((n : Int) == 0) = true := by simp [h0]
        clear h0
        go_enter Tryd.func8, Tryd.ntmps8
        go_wp2_with (first | (go_at_call 23; refine HV.mono ?_; rintro e w1 ⟨rfl, hb1⟩) | (go_at_call 45; refine (areWords_any gn hg _ [s] 1 _ _ rfl (RS.block _ [s] 9) (by omega) HS).mono ?_; rintro e w2 ⟨rfl, hb2⟩; rw [HTW.out]; have hb2 : Below w.heap.size w w2 := (hb1.alloc hb1.size _).trans (hb2.mono (by have := hb1.size; simp; omega))))
        exact bodyPost_ret (v := .tuple #[.int .i64 0, .int .i64 0, .int .i64 3]) (by simp [results, Tryd.results8, go_sem]) rfl (trip_of HR.out hb2)
      · have h0l : 0 < ss.length := by rw [hn.out]; omega
        have hne : ¬ ss.length = 0 := by omega
        obtain ⟨l1, l8, hle⟩ := ok_first ho h0l
        obtain ⟨b, off, rfl, hb, hc⟩ := (HA.out w (Below.refl _ _)).addr h0l
        obtain ⟨t0, ht0⟩ : ∃ t0, ss[0] = t0 := ⟨_, rfl⟩
        have HLA := Lib.hid (getD0 h0l ht0)
        have HZ0 : Hid (∀ W, Below w.heap.size w W → W.cell? ⟨b, off, none⟩ = some (.string t0)) := fun W hB => by have := (hB.cell (p := ⟨b, off + 0, none⟩) hb).trans (hc 0 h0l); rw [ht0, Nat.add_zero] at this; exact this
        have hn40 : n ≤ 40 := by rw [← hn.out]; exact p3
        have hn0 : ((n : Int) == 0) = false := by simp; omega
        have hnp : (0 : Int) < (n : Int) := by omega
        rw [HLA.out] at l1 l8
        clear hc ht0
        by_cases hl : s.size = t0.size
        · have hs8 : s.size ≤ 8 := by omega
          have HE : Hid (∀ t ∈ ss, t.size = s.size) := fun t ht => by rw [hle t ht, HLA.out, hl]
          obtain ⟨B, M, hr⟩ : ∃ B M, scanN (farS ss s) n = (B, M) := ⟨_, _, rfl⟩
          have hBn : B < n := by have := (scanN_at (farS ss s) (show 0 < n by omega)).1; rw [hr] at this; exact this
          obtain ⟨m, hm⟩ : ∃ m, farS ss s B = m := ⟨_, rfl⟩
          have hm8 : m ≤ 8 := by rw [← hm]; exact farS_le HE.out hs8 B (by rw [hn.out]; exact hBn)
          obtain ⟨f1, f2, f3, f4⟩ := near_facts ss s hn40 (by omega) B M m hr hm
          have HR1 := fun h5 => nearAns_clash ho hw' hne (by rw [HLA.out]; exact hl) h5
          have HR2 := fun h5 => nearAns_one ho hw' hne (by rw [HLA.out]; exact hl) h5
          rw [hn.out, hr] at HR1 HR2
          simp only [hm] at HR1 HR2
          have HR1 := Lib.hid HR1
          have HR2 := Lib.hid HR2
          have HBY := fun W hR => byDistance_any (some ⟨b, off, none⟩) ss s n ca W hn hR hn40 hs8 HE
          obtain ⟨V, hV⟩ : ∃ V : Nat → Nat, ∀ d, setD ss s d n = V d := ⟨_, fun _ => rfl⟩
          have HV9 := Lib.hid (setsV_nine ss s n V hV)
          have HVL : Hid (∀ d, V d < 1099511627776) := fun d => by rw [← hV]; exact setD_lt _ _ _ _ hn40
          rw [hV] at f2 f3 f4
          have F1 : Hid (∀ k, k < m → V k = 0) := fun k hk => by rw [← hV]; exact f1 k hk
          have F2 := Lib.hid f2
          have F3 := Lib.hid f3
          have F4 := Lib.hid f4
          have hll : ((t0.size : Int) != (s.size : Int)) = false := by simp; omega
          clear hle hl hw hw' ho hr hm hV f1 f2 f3 f4
          go_enter Tryd.func8, Tryd.ntmps8
          go_wp2_with (first | (go_at_call 23; refine HV.mono ?_; rintro e w1 ⟨rfl, hb1⟩) | (go_at_call 45; refine (areWords_any gn hg _ [s] 1 _ _ rfl (RS.block _ [s] 9) (by omega) HS).mono ?_; rintro e w2 ⟨rfl, hb2⟩; rw [HTW.out]; have hb2 : Below w.heap.size w w2 := (hb1.alloc hb1.size _).trans (hb2.mono (by have := hb1.size; simp; omega)); have z2 := HZ0.out w2 hb2) | (go_at_call 46; refine (HBY _ (HA.out _ hb2)).mono ?_; rintro e w3 ⟨rfl, hb3⟩; rw [HV9.out]))
          have HB3 := Lib.hid (two_worlds' hb2 hb3)
          clear hb1 hb2 hb3 z2 HV HBY HV9
          go_loopw [10] (fun dv wr => ∃ k : Nat, k ≤ m ∧ dv = .int .i64 (k : Int) ∧ Hid (Below w.heap.size w wr) ∧ Hid (∀ j, j < 9 → wr.cell? ⟨w3.heap.size, j, none⟩ = some (.int .u64 ((V j : Nat) : Int)))) (fun dv _ => m - (intOf dv).toNat)
          case atStart =>
            refine ⟨0, by omega, rfl, ?_, ?_⟩
            · exact HB3.out.alloc HB3.out.size _
            · intro j hj
              rw [cell_of_row _ _ _ _ _ _ (heap_alloc_new w3 _)]
              rcases (by omega : j = 0 ∨ j = 1 ∨ j = 2 ∨ j = 3 ∨ j = 4 ∨ j = 5 ∨ j = 6 ∨ j = 7 ∨ j = 8) with rfl | rfl | rfl | rfl | rfl | rfl | rfl | rfl | rfl <;> rfl
          case round =>
            obtain ⟨k, hk, rfl, HBW, HC9⟩ := hrel
            have x1 := HC9.out k (by omega)
            have hk0 : (0 : Int) ≤ (k : Int) := by omega
            have hk1 : (k : Int) < 9 := by omega
            by_cases hlt : k < m
            · rw [F1.out k hlt] at x1
              go_wp2
              go_roundw
              case rel => exact ⟨k + 1, by omega, by go_num, HBW.out, HC9.out⟩
              case measure => simp [intOf]; omega
            · have hkm : k = m := by omega
              subst hkm
              have c1 : (((V k : Nat) : Int) == 0) = false := by have := F2.out; simp; omega
              have HSZ := fun W => size_any (V k) (by have := HVL.out k; omega) W
              rw [F3.out] at HSZ
              by_cases hm1 : 1 < M
              · have HR := Lib.hid (HR1.out hm1)
                have hm' : (1 : Int) < (M : Int) := by omega
                clear hm1
                go_wp2_with (go_at_call 47; refine (HSZ _).mono ?_; rintro e w5 ⟨rfl, rfl⟩)
                exact bodyPost_ret (v := .tuple #[.int .i64 0, .int .i64 0, .int .i64 9]) (by simp [results, Tryd.results8, go_sem]) rfl (trip_of HR.out HBW.out)
              · have HR := Lib.hid (HR2.out hm1)
                have hm2 : decide ((1 : Int) < (M : Int)) = false := by simp; omega
                have HFI := fun W hTW => first_any (V k) (by have := HVL.out k; omega) W hTW
                rw [F4.out] at HFI
                have HFI := Lib.hid HFI
                have hB40 : (B : Int) ≤ 40 := by omega
                clear hm1
                go_wp2_with (first | (go_at_call 47; refine (HSZ _).mono ?_; rintro e w5 ⟨rfl, rfl⟩) | (go_at_call 48; refine (HFI.out _ (HT.out _ HBW.out)).mono ?_; rintro e w6 ⟨rfl, rfl⟩))
                exact bodyPost_ret (v := .tuple #[.int .i64 (B : Nat), .int .i64 (k : Nat), .int .i64 0]) (by simp [results, Tryd.results8, go_sem]) rfl (trip_of HR.out HBW.out)
        · have HR := Lib.hid (nearAns_len ho hw' hne (by rw [HLA.out]; exact hl))
          have hll : ((t0.size : Int) != (s.size : Int)) = true := by simp; omega
          clear hle hl
          go_enter Tryd.func8, Tryd.ntmps8
          go_wp2_with (first | (go_at_call 23; refine HV.mono ?_; rintro e w1 ⟨rfl, hb1⟩) | (go_at_call 45; refine (areWords_any gn hg _ [s] 1 _ _ rfl (RS.block _ [s] 9) (by omega) HS).mono ?_; rintro e w2 ⟨rfl, hb2⟩; rw [HTW.out]; have hb2 : Below w.heap.size w w2 := (hb1.alloc hb1.size _).trans (hb2.mono (by have := hb1.size; simp; omega)); have z2 := HZ0.out w2 hb2))
          exact bodyPost_ret (v := .tuple #[.int .i64 0, .int .i64 0, .int .i64 8]) (by simp [results, Tryd.results8, go_sem]) rfl (trip_of HR.out hb2)
end Go.Proofs.YtpkkibnpjhlfmaaDoor
