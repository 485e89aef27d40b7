/-
  How many guests can still go: the program's mostAfter, which remembers.
-/
import Derived.Test.YtkfeihnapcfkgaaDoorRoomN
import Derived.Lib.MinMax
namespace Go.Proofs.YtkfeihnapcfkgaaDoor
open Go.RowKit Go.Maps Go.ChangeShapes

theorem zeroI (w : World) : (zeroValue 2).run Tryd.prog w = .ok (.int .i64 0) w := by kernel_rfl
abbrev KeyG : TypeId := 59
theorem pow9 {r : Nat} (h : 0 < r) : 9 ^ r = 9 * 9 ^ (r - 1) := by
  obtain ⟨r', rfl⟩ : ∃ r', r = r' + 1 := ⟨r - 1, by omega⟩
  rw [Nat.pow_succ, Nat.add_sub_cancel, Nat.mul_comm]
theorem pow9_pos (r : Nat) : 0 < 9 ^ r := Nat.pow_pos (by decide)

set_option maxRecDepth 100000 in
set_option maxHeartbeats 8000000 in
theorem mostAfter_any (wb : World) (xb mb bb ob b1 o1 n m c d : Nat) (l : List Int) (ts : List TGuest)
    (hn : Hid (l.length = n)) (hm : Hid (ts.length = m)) (hl : RI wb (some ⟨bb, ob, none⟩) l) (ha : RR 2 cGuest wb (some ⟨b1, o1, none⟩) ts) (hn0 : 0 < n) (hsn : n ≤ 1048576) (hm8 : m ≤ 8) (hp : Pl l) (hg : guB n ts = true) (hT : BitTab wb) :
    ∀ (r s : Nat) (w : World) (q : Nat), s < 2 ^ m → remS m s ≤ r → q + 9 ^ r ≤ 1000000000000000 → ExcAt wb xb mb (.slice (some ⟨bb, ob, none⟩) n c) (.slice (some ⟨b1, o1, none⟩) m d) w → MemoG Tryd.prog KeyG mb q (mostS l ts) w →
      Calls Tryd.prog 51 #[.pointer (some ⟨xb, 0, none⟩), .int .u64 (s : Int)] w fun e w' => e = .returned (.int .i64 (mostS l ts s : Nat)) ∧ Turned mb (mb + 1) w w' ∧ MemoG Tryd.prog KeyG mb (q + 9 ^ r) (mostS l ts) w' := by
  intro r
  induction r using Nat.strongRecOn with
  | ind r ih =>
    intro s w q hs hr hq hx hmem
    have IH := Lib.hid ih
    clear ih
    have h256 : s < 256 := Nat.lt_of_lt_of_le hs (Nat.le_trans (Nat.pow_le_pow_right (by decide) hm8) (by decide))
    have HS40 : s < 1099511627776 := by omega
    have hlook := hmem.look (t := 95) Tryd.underlying59 Tryd.underlying95 (zeroI w) h256
    have GA := goersAfter_any wb xb mb bb ob b1 o1 n m c d s l ts w hx hn hm hl ha hn0 hsn hm8 hp hg hT hs
    have ME : Hid (∀ W, Below w.heap.size w W → Calls Tryd.prog 46 #[.int .u64 ((setN (canS l ts s) m : Nat) : Int)] W fun e w' => Below W.heap.size W w' ∧ ∃ ao cap, e = .returned (.slice ao (filtN (canS l ts s) m).length cap) ∧ w'.ownsRow W.heap.size 2 1 (.slice ao (filtN (canS l ts s) m).length cap) (filtN (canS l ts s) m).length ((filtN (canS l ts s) m).map (Value.int .i64))) := fun W h => members_any _ m W (by omega) (hT.below (two_worlds hx.bel h))
    rw [filtN_K] at ME
    simp only [List.length_map] at ME
    have HM := Lib.hid (mostS_eq l ts s)
    have HMLE : Hid (∀ s, mostS l ts s ≤ 8) := fun s => by have := mostS_le l ts s; rw [hm.out] at this; omega
    have HKS : Hid (∀ k ∈ filtK (canS l ts s) m, k < m ∧ s.testBit k = false) := fun k hk => by
      obtain ⟨h1, h2⟩ := filtK_lt hk
      exact ⟨h1, canS_new (by rw [hm.out]; exact h1) h2⟩
    have hkl : (filtK (canS l ts s) m).length ≤ 8 := by
      have := filtN_len (canS l ts s) m
      rw [filtN_K, List.length_map] at this
      omega
    rw [hm.out] at HM
    have HX := Lib.hid hx
    have HMEM := Lib.hid hmem
    have hc2 := hx.c2
    have HSZ := hx.size
    have HLT := hx.lt
    have HR := Lib.hid hr
    have HQ := Lib.hid hq
    clear hx hmem hl ha hp hg hT hr hq
    generalize setN (canS l ts s) m = cx at GA ME
    generalize filtK (canS l ts s) m = ks at ME HM HKS hkl
    obtain ⟨cl, hcl⟩ : ∃ cl, ks.length = cl := ⟨_, rfl⟩
    rw [hcl] at ME hkl
    have HCL := Lib.hid hcl
    clear hcl
    rcases hlook with ⟨v, hlook⟩ | hlook
    rotate_left
    · have hmo : MemoG Tryd.prog KeyG mb (q + 9 ^ r) (mostS l ts) w := HMEM.out.mono (Nat.le_add_right _ _)
      go_enter Tryd.func51, Tryd.ntmps51
      go_wp2_with fail
      go_ret
      exact ⟨rfl, Turned.refl _ _ _, hmo⟩
    · go_enter Tryd.func51, Tryd.ntmps51
      go_wp2_with (first | (go_at_call 86; refine GA.mono ?_; rintro e w1 ⟨rfl, hb1⟩) | (go_at_call 46; refine (ME.out _ hb1).mono ?_; rintro e w2 ⟨hb2, ao, cap, rfl, ho2⟩))
      have HB2 := Lib.hid (two_worlds hb1 hb2)
      have HROW2 := Lib.hid (Row.of ho2)
      have hsz1 := hb1.size
      clear hb1 hb2 ho2 GA ME
      have HX2 := Lib.hid (HX.out.below HB2.out)
      have HMEM2 := Lib.hid (HMEM.out.below HB2.out)
      have HTU2 : Hid (Turned mb (mb + 1) w w2) := Turned.of HB2.out
      obtain ⟨P9, hP9⟩ : ∃ P9, P9 = 9 ^ (r - 1) := ⟨_, rfl⟩
      have HP := Lib.hid hP9
      clear hP9 hlook hc2
      have hmb : mb + 1 ≤ w1.heap.size := by omega
      go_wp2_with fail
      go_loopw [7, 26] (fun bv jv wr => ∃ j : Nat, j ≤ cl ∧ bv = .int .i64 ((foldM (fun k => mostS l ts (s ||| 2 ^ k)) (ks.take j) : Nat) : Int) ∧ jv = .int .i64 (j : Int) ∧ Hid (Turned mb (mb + 1) w wr) ∧ Hid (MemoG Tryd.prog KeyG mb (q + j * P9) (mostS l ts) wr) ∧ Hid (Row w1.heap.size w2.heap.size 2 1 (.slice ao cl cap) cl ((ks.map (fun (k : Nat) => (k : Int))).map (Value.int .i64)) wr)) (fun _ jv _ => cl - (intOf jv).toNat)
      case atStart => exact ⟨0, by omega, rfl, rfl, HTU2, by unfold Hid; rw [Nat.zero_mul]; exact HMEM2.out, HROW2⟩
      case round =>
        obtain ⟨j, hj, rfl, rfl, HTU, HMR, HROW⟩ := hrel
        have HXR := Lib.hid (HX.out.turned HTU.out)
        by_cases hlt : j < cl
        · have hjk : j < ks.length := by rw [HCL.out]; exact hlt
          obtain ⟨hkm, hkb⟩ := HKS.out _ (List.getElem_mem hjk)
          have hnx : foldM (fun k => mostS l ts (s ||| 2 ^ k)) (ks.take (j + 1)) = max (foldM (fun k => mostS l ts (s ||| 2 ^ k)) (ks.take j)) (1 + mostS l ts (s ||| 2 ^ ks[j])) := by
            rw [List.take_succ_eq_append_getElem hjk, foldM_app]
          obtain ⟨bm, om, rfl, hbm, xm⟩ := (rowI_RI (ns := ks.map (fun (k : Nat) => (k : Int))) (by unfold Hid; rw [List.length_map]; exact HCL.out) HROW.out.1).at_ j (by rw [List.length_map]; exact hjk)
          rw [List.getElem_map] at xm
          obtain ⟨k, hkd⟩ : ∃ k, k = ks[j] := ⟨_, rfl⟩
          rw [← hkd] at hkm hkb hnx xm
          clear hkd
          have hrem := remS_next hkm hkb
          have hr0 := HR.out
          have h9 : 9 ^ r = 9 * P9 := by rw [HP.out]; exact pow9 (by omega)
          have h9j : (j + 1) * P9 ≤ 9 * P9 := Nat.mul_le_mul_right _ (by omega)
          have hq0 := HQ.out
          have hsj : (j + 1) * P9 = j * P9 + P9 := Nat.succ_mul _ _
          have MA := IH.out (r - 1) (by omega) (s ||| 2 ^ k) wr (q + j * P9) (or_lt hs hkm) (by omega) (by rw [← HP.out]; omega) HXR.out HMR.out
          rw [← HP.out, Nat.add_assoc, ← hsj] at MA
          have WI := fun W => with_any s k W HS40 (by omega)
          have hle1 := HMLE.out (s ||| 2 ^ k)
          have HNX := Lib.hid hnx
          have hk0 : (0 : Int) ≤ (k : Int) := by omega
          have hj0 : (0 : Int) ≤ (j : Int) := by omega
          have hj1 : (j : Int) < (cl : Int) := by omega
          clear hnx hrem hr0 h9 h9j hq0 hsj hkb
          generalize foldM (fun k => mostS l ts (s ||| 2 ^ k)) (ks.take j) = A at HNX
          generalize hB : mostS l ts (s ||| 2 ^ k) = B at HNX hle1 MA
          clear hB
          have HMA := Lib.hid MA
          clear MA
          have HC : Hid (((foldM (fun k => mostS l ts (s ||| 2 ^ k)) (ks.take (j + 1)) : Nat) : Int) = max (A : Int) (1 + (B : Int))) := by unfold Hid; rw [HNX.out]; omega
          clear HNX
          have hA0 : (0 : Int) ≤ (A : Int) := by omega
          have hB0 : (0 : Int) ≤ (B : Int) := by omega
          go_wp2_with (first | (go_at_call 56; refine (WI _).mono ?_; rintro e w' ⟨rfl, rfl⟩) | (go_at_call 51; refine HMA.out.mono ?_; rintro e w4 ⟨rfl, ht4, hm4⟩))
          go_roundw
          case rel => exact ⟨j + 1, by omega, by rw [HC.out], by go_num, HTU.out.trans ht4, hm4, HROW.out.turned ht4 (.inr hmb)⟩
          case measure => simp [intOf]; omega
        · have hjc : j = cl := by omega
          subst hjc
          have hfm : foldM (fun k => mostS l ts (s ||| 2 ^ k)) (ks.take j) = mostS l ts s := by rw [← HCL.out, List.take_length, HM.out]
          rw [hfm]
          have HRB : Hid (q + j * P9 + 1 ≤ q + 9 ^ r) := by
            unfold Hid
            have hp := pow9_pos (r - 1)
            rw [← HP.out] at hp
            have h8 : j * P9 ≤ 8 * P9 := Nat.mul_le_mul_right _ hkl
            by_cases hr0 : r = 0
            · -- no guest is left, so there is none that can go
              have hj0 : j = 0 := by
                rcases Nat.eq_zero_or_pos j with h | h
                · exact h
                · exfalso
                  have hjl : 0 < ks.length := by rw [HCL.out]; exact h
                  obtain ⟨h1, h2⟩ := HKS.out _ (List.getElem_mem hjl)
                  have := remS_next h1 h2
                  have := HR.out
                  omega
              rw [hj0, hr0]
              omega
            · have h9 : 9 ^ r = 9 * P9 := by rw [HP.out]; exact pow9 (by omega)
              omega
          have hq0 := HQ.out
          have hrb := HRB.out
          obtain ⟨w5, hrun, hm5, hg5⟩ := HMR.out.store (t := 95) Tryd.underlying59 Tryd.underlying95 (by unfold maxLen; omega) h256
          have hc2 := HXR.out.c2
          have hmo := hm5.mono hrb
          have htu := HTU.out.trans (Turned.grown hg5 (a := mb) (c := mb + 1) (fun k e => by injection e with e; omega))
          clear hq0 hrb hm5 hg5 hfm
          generalize hz : mostS l ts s = z at hrun ⊢
          have HZ := Lib.hid hz
          clear hz
          go_wp2_with fail
          go_ret
          exact ⟨by rw [HZ.out]; rfl, htu, hmo⟩
end Go.Proofs.YtkfeihnapcfkgaaDoor
