/-
  The walk of the least distance: the program's leastDistance at texts.
-/
import Derived.Test.YtpkkibnpjhlfmaaDoorLeast
namespace Go.Proofs.YtpkkibnpjhlfmaaDoor
open Go.RowKit

set_option maxRecDepth 100000 in
set_option maxHeartbeats 8000000 in
theorem leastS_any (a : Option Addr) (ss : List ByteArray) (n ca L : Nat) (w : World) (hn : Hid (ss.length = n)) (ha : RS w a ss) (hmax : n ≤ 1048576) (h2 : 2 ≤ n) (hcap : n ≤ ca) (hcm : ca ≤ 9223372036854775807) (HE : Hid (Even L ss)) :
    Calls Tryd.prog 53 #[.slice a n ca] w fun e w' => e = .returned (.int .i64 ((leastD (bls ss) : Nat) : Int)) ∧ ∃ q, w' = w.drewN q := by
  obtain ⟨b, off, rfl, hb, hc⟩ := ha.addr (by rw [hn.out]; omega)
  have HC := Lib.hid hc
  have HLEN : Hid ((bls ss).length = n) := by unfold Hid; rw [bls_length]; exact hn.out
  clear hc ha
  go_enter Tryd.func53, Tryd.ntmps53
  go_wp2_with fail
  go_loopw [3, 10] (fun lv iv wr => ∃ (i l q : Nat), i ≤ n ∧ iv = .int .i64 (i : Int) ∧ lv = .int .i64 (l : Int) ∧ Hid (MinOf (bls ss) (PrI n i 0) l) ∧ Hid (wr = w.drewN q)) (fun _ iv _ => n - (intOf iv).toNat)
  case atStart => exact ⟨0, 8, 0, by omega, rfl, rfl, minOf_zero (fun b s hs => PrI_zero n b s hs), rfl⟩
  case round =>
    obtain ⟨i, l, q, hi, rfl, rfl, HLS, HQ⟩ := hrel
    obtain ⟨wo, hwo⟩ : ∃ wo : World, wo = wr := ⟨_, rfl⟩
    subst hwo
    by_cases hlt : i < n
    · have hil : i < ss.length := by rw [hn.out]; exact hlt
      obtain ⟨t, ht⟩ : ∃ t, ss[i] = t := ⟨_, rfl⟩
      have HT := Lib.hid ht
      have hts : t.size = L := by rw [← ht]; exact HE.out.at _ hil
      have x1 := HC.out i hil
      rw [ht] at x1
      have hwo2 : ∀ p, wo.cell? p = w.cell? p := fun p => by rw [HQ.out]; exact World.cell?_drewN ..
      rw [← hwo2] at x1
      have HTB : Hid ((bls ss).getD i [] = bl t) := by unfold Hid; rw [bls_get _ _ hil, ht]
      have hL8 := HE.out.1
      have hi0 : (0 : Int) ≤ (i : Int) := by omega
      have hi1 : (i : Int) < (n : Int) := by omega
      have hi2 : (i : Int) + 1 ≤ (n : Int) := by omega
      have hi3 : (n : Int) ≤ (ca : Int) := by omega
      clear ht
      by_cases hlast : n = i + 1
      · have HNX : Hid (MinOf (bls ss) (PrI n (i + 1) 0) l) := minOf_same HLS.out (fun b s hs => by rw [PrI_row hlt hs, hlast]; simp)
        have hz : n - (i + 1) = 0 := by omega
        have HLAST := Lib.hid hlast
        clear hwo2 hlast
        by_cases hci : ca = i + 1
        · subst hci
          go_wp2
          go_loopw [3, 20] (fun lv kv w2 => kv = .int .i64 0 ∧ lv = .int .i64 (l : Int) ∧ w2 = wo) (fun _ _ _ => 0)
          case atStart => exact ⟨rfl, rfl, rfl⟩
          case round =>
            obtain ⟨rfl, rfl, rfl⟩ := hrel
            go_wp2
            go_roundw
            case rel => first | exact ⟨i + 1, l, q, by omega, by go_num, rfl, HNX.out, HQ.out⟩ | ((repeat apply Exists.intro); exact ⟨⟨i + 1, l, q, by omega, by go_num, rfl, HNX.out, HQ.out⟩, rfl⟩)
            case measure => simp [intOf]; omega
        · go_wp2
          go_loopw [3, 20] (fun lv kv w2 => kv = .int .i64 0 ∧ lv = .int .i64 (l : Int) ∧ w2 = wo) (fun _ _ _ => 0)
          case atStart => exact ⟨rfl, rfl, rfl⟩
          case round =>
            obtain ⟨rfl, rfl, rfl⟩ := hrel
            go_wp2
            go_roundw
            case rel => first | exact ⟨i + 1, l, q, by omega, by go_num, rfl, HNX.out, HQ.out⟩ | ((repeat apply Exists.intro); exact ⟨⟨i + 1, l, q, by omega, by go_num, rfl, HNX.out, HQ.out⟩, rfl⟩)
            case measure => simp [intOf]; omega
      · have HWO := Lib.hid hwo2
        have hca : i + 1 < ca := by omega
        clear hwo2
        go_wp2
        go_loopw [3, 20] (fun lv kv w2 => ∃ (k l q : Nat), k ≤ n - (i + 1) ∧ kv = .int .i64 (k : Int) ∧ lv = .int .i64 (l : Int) ∧ Hid (MinOf (bls ss) (PrI n i k) l) ∧ Hid (w2 = w.drewN q)) (fun _ kv _ => (n - (i + 1)) - (intOf kv).toNat)
        case atStart => exact ⟨0, l, q, by omega, rfl, rfl, HLS.out, HQ.out⟩
        case round =>
          obtain ⟨k, l2, q2, hk, rfl, rfl, HL2, HQ2⟩ := hrel
          by_cases hlk : k < n - (i + 1)
          · have hkn : i + 1 + k < n := by omega
            have hkl : i + 1 + k < ss.length := by rw [hn.out]; omega
            obtain ⟨u, hu⟩ : ∃ u, ss[i + 1 + k] = u := ⟨_, rfl⟩
            have hus : u.size = L := by rw [← hu]; exact HE.out.at _ hkl
            have y1 := HC.out (i + 1 + k) hkl
            rw [hu] at y1
            have HUB : Hid ((bls ss).getD (i + 1 + k) [] = bl u) := by unfold Hid; rw [bls_get _ _ hkl, hu]
            have HNX := Lib.hid (minOf_next HL2.out (show i < i + 1 + k by omega) (fun b s hs => PrI_next hkn hs))
            rw [HTB.out, HUB.out, farL_symm (by rw [bl_length, bl_length, hus, hts])] at HNX
            have hl28 := HL2.out.1
            have hw2 : ∀ p, wr.cell? p = w.cell? p := fun p => by rw [HQ2.out]; exact World.cell?_drewN ..
            have ey : off + (i + 1 + k) = off + (i + 1) + k := by omega
            rw [← hw2, ey] at y1
            have hf8 : farL (bl t) (bl u) ≤ 8 := by have := farL_le (bl t) (bl u); rw [bl_length] at this; omega
            have HF := fun W => distanceOf_any t u (by omega) (by omega) W
            clear hw2 hu ey
            generalize farL (bl t) (bl u) = d at HNX hf8 HF
            have hk0 : (0 : Int) ≤ (k : Int) := by omega
            have hk1 : (k : Int) < ((n - (i + 1) : Nat) : Int) := by omega
            go_wp2_with fail
            refine (HF _).mono ?_
            rintro e w3 ⟨rfl, m, rfl⟩
            by_cases hmn : (d : Int) < (l2 : Int)
            · have hmin : min l2 d = d := by omega
              rw [hmin] at HNX
              go_wp2
              go_roundw
              case rel => exact ⟨k + 1, d, _, by omega, by go_num, by go_num, HNX.out, by unfold Hid; rw [HQ2.out]; exact World.drewN_drewN _ _ _⟩
              case measure => simp [intOf]; omega
            · have hmin : min l2 d = l2 := by omega
              rw [hmin] at HNX
              go_wp2
              go_roundw
              case rel => exact ⟨k + 1, l2, _, by omega, by go_num, by go_num, HNX.out, by unfold Hid; rw [HQ2.out]; exact World.drewN_drewN _ _ _⟩
              case measure => simp [intOf]; omega
          · have hki : k = n - (i + 1) := by omega
            have HNX : Hid (MinOf (bls ss) (PrI n (i + 1) 0) l2) := minOf_same HL2.out (fun b s hs => by rw [PrI_row hlt hs, hki])
            have hlk2 : ¬ k < n - (i + 1) := hlk
            clear hki
            go_wp2
            go_roundw
            case rel => first | exact ⟨i + 1, l2, q2, by omega, by go_num, rfl, HNX.out, HQ2.out⟩ | ((repeat apply Exists.intro); exact ⟨⟨i + 1, l2, q2, by omega, by go_num, rfl, HNX.out, HQ2.out⟩, rfl⟩)
            case measure => simp [intOf]; omega
    · have hin : i = n := by omega
      have HR : Hid (((l : Nat) : Int) = ((leastD (bls ss) : Nat) : Int)) := congrArg Nat.cast (minOf_end (Pr := PrI n i 0) HLS.out (by rw [HLEN.out]; exact h2) HE.out.bls (fun b s hs => by rw [HLEN.out, hin]; exact PrI_end hs))
      clear hin
      go_wp2
      go_ret
      exact ⟨ret_int HR.out, q, HQ.out⟩
end Go.Proofs.YtpkkibnpjhlfmaaDoor
