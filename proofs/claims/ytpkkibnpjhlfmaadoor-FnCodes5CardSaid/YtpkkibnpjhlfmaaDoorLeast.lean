/-
  The walks of the least distance: the model's l05Least, the program's leastDistance at texts.
-/
import Derived.Test.YtpkkibnpjhlfmaaDoorLeastMath
import Derived.Test.YtpkkibnpjhlfmaaDoorAdrValid
namespace Go.Proofs.YtpkkibnpjhlfmaaDoor
open Go.RowKit

/-- Texts of one length, 8 at most. -/
def Even (L : Nat) (ss : List ByteArray) : Prop := L ≤ 8 ∧ ∀ s ∈ ss, s.size = L
theorem Even.at {L : Nat} {ss : List ByteArray} (h : Even L ss) (i : Nat) (hi : i < ss.length) : (ss[i]).size = L := h.2 _ (List.getElem_mem _)
theorem Even.bls {L : Nat} {ss : List ByteArray} (h : Even L ss) (i : Nat) (hi : i < (bls ss).length) : ((bls ss).getD i []).length ≤ 8 := by
  rw [bls_get _ _ (bls_lt hi), bl_length, h.at _ (bls_lt hi)]; exact h.1

set_option maxRecDepth 100000 in
set_option maxHeartbeats 8000000 in
theorem l05Least_any (a : Option Addr) (ss : List ByteArray) (n ca L : Nat) (w : World) (hn : Hid (ss.length = n)) (ha : RS w a ss) (hmax : n ≤ 1048576) (h2 : 2 ≤ n) (HE : Hid (Even L ss)) :
    Calls Tryd.prog 54 #[.slice a n ca] w fun e w' => e = .returned (.int .i64 ((leastD (bls ss) : Nat) : Int)) ∧ ∃ q, w' = w.drewN q := by
  obtain ⟨b, off, rfl, hb, hc⟩ := ha.addr (by rw [hn.out]; omega)
  have HC := Lib.hid hc
  have HLEN : Hid ((bls ss).length = n) := by unfold Hid; rw [bls_length]; exact hn.out
  clear hc ha
  go_enter Tryd.func54, Tryd.ntmps54
  go_wp2_with fail
  go_loopw [3, 4] (fun lv iv wr => ∃ (i : Nat) (l : Int) (q : Nat), i ≤ n ∧ iv = .int .i64 (i : Int) ∧ lv = .int .i64 l ∧ Hid (LS (bls ss) i 0 l) ∧ Hid (wr = w.drewN q)) (fun _ iv _ => n - (intOf iv).toNat)
  case atStart => exact ⟨0, -1, 0, by omega, rfl, rfl, LS_zero _, rfl⟩
  case round =>
    obtain ⟨i, l, q, hi, rfl, rfl, HLS, HQ⟩ := hrel
    obtain ⟨wo, hwo⟩ : ∃ wo : World, wo = wr := ⟨_, rfl⟩
    subst hwo
    by_cases hlt : i < n
    · have hil : i < ss.length := by rw [hn.out]; exact hlt
      obtain ⟨t, ht⟩ : ∃ t, ss[i] = t := ⟨_, rfl⟩
      have HT := Lib.hid ht
      have hts : t.size = L := by rw [← ht]; exact HE.out.at _ hil
      have x1 := HC.out i hil
      rw [ht] at x1
      have X1 := Lib.hid x1
      have HTB : Hid ((bls ss).getD i [] = bl t) := by unfold Hid; rw [bls_get _ _ hil, ht]
      have hL8 := HE.out.1
      clear ht x1
      go_wp2
      go_loopw [3, 5] (fun lv kv w2 => ∃ (k : Nat) (l : Int) (q : Nat), k ≤ i ∧ kv = .int .i64 (k : Int) ∧ lv = .int .i64 l ∧ Hid (LS (bls ss) i k l) ∧ Hid (w2 = w.drewN q)) (fun _ kv _ => i - (intOf kv).toNat)
      case atStart => exact ⟨0, l, q, by omega, rfl, rfl, HLS.out, HQ.out⟩
      case round =>
        obtain ⟨k, l2, q2, hk, rfl, rfl, HL2, HQ2⟩ := hrel
        by_cases hlk : k < i
        · have hkl : k < ss.length := by rw [hn.out]; omega
          obtain ⟨u, hu⟩ : ∃ u, ss[k] = u := ⟨_, rfl⟩
          have hus : u.size = L := by rw [← hu]; exact HE.out.at _ hkl
          have y1 := HC.out k hkl
          rw [hu] at y1
          have HUB : Hid ((bls ss).getD k [] = bl u) := by unfold Hid; rw [bls_get _ _ hkl, hu]
          have HNX := Lib.hid (LS_next HL2.out hlk (HE.out.bls i (by rw [bls_length]; exact hil)))
          rw [HTB.out, HUB.out] at HNX
          have hbnd := LS_bound HL2.out
          have hw2 : ∀ p, wr.cell? p = w.cell? p := fun p => by rw [HQ2.out]; exact World.cell?_drewN ..
          have x1 := X1.out
          rw [← hw2] at x1 y1
          clear hw2 hu
          have hf8 : farL (bl t) (bl u) ≤ 8 := by have := farL_le (bl t) (bl u); rw [bl_length] at this; omega
          have HF := fun W => l05Far_any t u (by omega) (by omega) W
          generalize farL (bl t) (bl u) = d at HNX hf8 HF
          have hi0 : (0 : Int) ≤ (i : Int) := by omega
          have hi1 : (i : Int) < (n : Int) := by omega
          have hk0 : (0 : Int) ≤ (k : Int) := by omega
          have hk1 : (k : Int) < (n : Int) := by omega
          go_wp2_with fail
          go_quiet (first | (go_at_call 51; refine Calls.quiet_of (HF _)))
          by_cases hneg : l2 < 0
          · rw [if_pos (.inl hneg)] at HNX
            go_wp2
            go_roundw
            case rel => exact ⟨k + 1, d, _, by omega, by go_num, rfl, HNX.out, by unfold Hid; rw [HQ2.out]; exact World.drewN_drewN _ _ _⟩
            case measure => simp [intOf]; omega
          · by_cases hsm : (d : Int) < l2
            · rw [if_pos (.inr hsm)] at HNX
              go_wp2
              go_roundw
              case rel => exact ⟨k + 1, d, _, by omega, by go_num, rfl, HNX.out, by unfold Hid; rw [HQ2.out]; exact World.drewN_drewN _ _ _⟩
              case measure => simp [intOf]; omega
            · rw [if_neg (by omega)] at HNX
              go_wp2
              go_roundw
              case rel => exact ⟨k + 1, l2, _, by omega, by go_num, rfl, HNX.out, by unfold Hid; rw [HQ2.out]; exact World.drewN_drewN _ _ _⟩
              case measure => simp [intOf]; omega
        · have hki : k = i := by omega
          subst hki
          have HN2 := Lib.hid (LS_row HL2.out)
          go_wp2
          go_roundw
          case rel => exact ⟨k + 1, l2, q2, by omega, by go_num, rfl, HN2.out, HQ2.out⟩
          case measure => simp [intOf]; omega
    · have hin : i = n := by omega
      have HR : Hid (l = ((leastD (bls ss) : Nat) : Int)) := LS_end (by rw [HLEN.out, ← hin]; exact HLS.out) (by rw [HLEN.out]; exact h2) HE.out.bls
      clear hin
      go_wp2
      go_ret
      exact ⟨ret_int HR.out, q, HQ.out⟩
end Go.Proofs.YtpkkibnpjhlfmaaDoor
