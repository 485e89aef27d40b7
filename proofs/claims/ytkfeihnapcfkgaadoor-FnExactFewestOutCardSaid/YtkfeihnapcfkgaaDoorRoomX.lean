/-
  WaitCircle: the model's walk.
-/
import Derived.Test.YtkfeihnapcfkgaaDoorRoomW
namespace Go.Proofs.YtkfeihnapcfkgaaDoor
open Go.RowKit

def slLen : Value → Nat
  | .slice _ n _ => n
  | _ => 0
theorem OkC.lt {m : Nat} {out : List Int} {k c : Nat} (h : OkC m out) (hc : out.length = c) (hk : k < m) (hn : ¬ (k : Int) ∈ out) : c < m := by
  have h1 := freeC_less hk hn
  have h2 := h.1
  omega
theorem OkC.le {m : Nat} {out : List Int} {c : Nat} (h : OkC m out) (hc : out.length = c) : c ≤ m := by have h2 := h.1; omega

set_option maxHeartbeats 8000000 in
theorem specWaitCircle_any (w : World) {b0 o0 n0 c0 : Nat} (l0 : List Int) (hn0 : Hid (l0.length = n0)) (h0 : RI w (some ⟨b0, o0, none⟩) l0) (hs0 : n0 ≤ 1048576) (_wf0 : Hid (∀ k ∈ l0, (Lit.int .i64 k).wf = true)) {a1 : Option Addr} {n1 c1 : Nat} (ts1 : List TGuest) (hn1 : Hid (ts1.length = n1)) (h1 : RR 2 cGuest w a1 ts1) (hs1 : n1 ≤ 1048576) (_wf1 : Hid (∀ t ∈ ts1, wfGuest t)) :
    Calls Tryd.prog 37 #[.slice (some ⟨b0, o0, none⟩) n0 c0, .slice a1 n1 c1] w (GivesIs 2 (circOf l0 ts1) w) := by
  have OK := l10Ok_any b0 o0 a1 l0 ts1 n0 n1 c0 c1 w hn0 hn1 h0 h1 hs0 hs1
  have WA : Hid (∀ W, Below w.heap.size w W → Pl l0 → guB n0 ts1 = true → ∀ i : Nat, i < n1 → Calls Tryd.prog 70 #[.slice (some ⟨b0, o0, none⟩) n0 c0, .slice a1 n1 c1, .int .i64 i] W fun e w' => e = .returned (.bool (waitN l0 ts1 i)) ∧ Below W.heap.size W w') := fun W h hp hg i hi => l10Waits_any b0 o0 a1 l0 ts1 n0 n1 c0 c1 i W hn0 hn1 (h0.below h) (h1.below h) hs0 hs1 hp hg hi
  have AF : Hid (∀ W, Below w.heap.size w W → n1 ≤ 8 → Pl l0 → guB n0 ts1 = true → ∀ i : Nat, i < n1 → Calls Tryd.prog 71 #[.slice (some ⟨b0, o0, none⟩) n0 c0, .slice a1 n1 c1, .int .i64 i] W fun e w' => e = .returned (.int .i64 (folN l0 ts1 i)) ∧ Below W.heap.size W w') := fun W h h8 hp hg i hi => l10After_any b0 o0 a1 l0 ts1 n0 n1 c0 c1 i W hn0 hn1 (h0.below h) (h1.below h) hs0 h8 hp hg hi
  have HI : Hid (∃ i0 : TypeInfo, Tryd.prog.info? 2 = some i0 ∧ i0.zero = some (.int .i64 0) ∧ i0.size = 1 ∧ i0.bytes = 8) := info_parts info2
  clear h0 h1
  cases hv : roB l0 ts1 with
  | false =>
    rw [hv] at OK
    have HR := Lib.hid (circOf_bad hv)
    clear hv WA AF
    go_enter Tryd.func37, Tryd.ntmps37
    go_wp2_with (go_at_call 58; refine OK.mono ?_; rintro e w1 ⟨rfl, hb1⟩)
    go_ret2
    exact givesIs_nil HR.out hb1
  | true =>
    rw [hv] at OK
    have HNO : Hid ((∀ i, i < n1 → isC l0 ts1 i = false) → circOf l0 ts1 = ([], 3)) := fun h => circOf_none hv (by rw [hn1.out]; exact h)
    have HYES : Hid (∀ i, i < n1 → isC l0 ts1 i = true → (∀ j, j < i → isC l0 ts1 j = false) → circOf l0 ts1 = ((wayC l0 ts1 i).1, 0)) := fun i hi h2 h3 => circOf_at hv (by rw [hn1.out]; exact hi) h2 h3
    obtain ⟨h4, h2, h3, _⟩ := roB_of hv
    rw [hn0.out] at h3
    rw [hn0.out, hn1.out] at h4
    have h8 : n1 ≤ 8 := h4.2.2
    have WAI := Lib.hid (fun W hW i hi => WA.out W hW h2 h3 i hi)
    have AFI := Lib.hid (fun W hW i hi => AF.out W hW h8 h2 h3 i hi)
    have HRG : Hid (∀ i, folN l0 ts1 i = -1 ∨ ∃ k : Nat, k < n1 ∧ folN l0 ts1 i = (k : Int)) := fun i => by
      rcases firstN_range (p := folP l0 ts1 i) (m := ts1.length) (by rw [hn1.out]; omega) with h | ⟨k, h5, h6, _⟩
      · exact .inl h
      · exact .inr ⟨k, by rw [← hn1.out]; exact h5, h6⟩
    have HWAY : Hid (∀ i, wayC l0 ts1 i = resC n1 (folN l0 ts1) [] i) := fun i => by unfold wayC; rw [hn1.out]
    have HIS : Hid (∀ i, isC l0 ts1 i = (waitN l0 ts1 i && decide ((wayC l0 ts1 i).2 = i))) := fun i => rfl
    clear hv h2 h3 h4 WA AF
    go_enter Tryd.func37, Tryd.ntmps37
    go_wp2_with (go_at_call 58; refine OK.mono ?_; rintro e w1 ⟨rfl, hb1⟩)
    have HB1 := Lib.hid hb1
    have hw1 := HB1.out.size
    clear hb1 OK
    go_loopw [6] (fun iv wr => ∃ i : Nat, i ≤ n1 ∧ iv = .int .i64 (i : Int) ∧ Hid (Below w.heap.size w wr) ∧ Hid (∀ j, j < i → isC l0 ts1 j = false)) (fun iv _ => n1 - (intOf iv).toNat)
    case atStart => exact ⟨0, by omega, rfl, HB1, fun j hj => by omega⟩
    case round =>
      obtain ⟨i, hi, rfl, HBEL, HALL⟩ := hrel
      by_cases hlt : i < n1
      · have WI := WAI.out _ HBEL.out i hlt
        have AI := Lib.hid (fun W hW => AFI.out W hW i hlt)
        have HNX : Hid (isC l0 ts1 i = false → ∀ j, j < i + 1 → isC l0 ts1 j = false) := fun h j hj => if e : j = i then (by subst e; exact h) else HALL.out j (by omega)
        have HFI := Lib.hid (fun h => HYES.out i hlt h HALL.out)
        have hk0 : (0 : Int) ≤ (i : Int) := by omega
        have hk1 : (i : Int) < (n1 : Int) := by omega
        cases hq : waitN l0 ts1 i with
        | false =>
          have HN := Lib.hid (HNX.out (by rw [HIS.out, hq]; rfl))
          rw [hq] at WI
          clear HNX HFI hq AI
          go_wp2_with (go_at_call 70; refine WI.mono ?_; rintro e w2 ⟨rfl, hb2⟩)
          go_roundw
          case rel => exact ⟨i + 1, by omega, by go_num, two_worlds HBEL.out hb2, HN⟩
          case measure => simp [intOf]; omega
        | true =>
          have HIS2 : Hid (isC l0 ts1 i = decide ((wayC l0 ts1 i).2 = i)) := by unfold Hid; rw [HIS.out, hq]; rfl
          rw [hq] at WI
          clear hq
          obtain ⟨wo, hwo⟩ : ∃ wo, wo = wr := ⟨wr, rfl⟩
          subst hwo
          go_wp2_with (first | (go_at_call 70; refine WI.mono ?_; rintro e w2 ⟨rfl, hb2⟩; have HB2 := Lib.hid (two_worlds HBEL.out hb2)) | (go_at_call 71; refine (AI.out _ (HB2.out.alloc HB2.out.size _)).mono ?_; rintro e w3 ⟨rfl, hb3⟩))
          have HB3 := Lib.hid (two_worlds (HB2.out.alloc HB2.out.size _) hb3)
          have HO3 : Hid (w3.ownsRow w.heap.size 2 1 (.slice (some ⟨w2.heap.size, 0, none⟩) 1 1) 1 ([(i : Int)].map (Value.int .i64))) := by
            have h5 : (w2.alloc (.cells #[.int .i64 (i : Int)] 2)).ownsRow w.heap.size 2 1 (.slice (some ⟨w2.heap.size, 0, none⟩) 1 1) 1 ([(i : Int)].map (Value.int .i64)) :=
              ⟨rfl, .inr ⟨w2.heap.size, 1, _, rfl, HB2.out.size, heap_alloc_new w2 _, Nat.le_refl _, by unfold maxLen; omega, rfl, rfl⟩⟩
            exact ((Row.of h5).below hb3).1
          have HW3 : Hid (wayC l0 ts1 i = resC n1 (folN l0 ts1) [(i : Int)] (folN l0 ts1 i)) := by
            unfold Hid
            rw [HWAY.out, resC_step hlt (by simp)]
            rfl
          have HK3 : Hid (OkC n1 [(i : Int)]) := (OkC.nil n1).next hlt (by simp)
          clear hb2 hb3 WI AI
          go_loopw [7, 8] (fun vo av wr => ∃ (c cap : Nat) (ao : Option Addr) (out : List Int) (at_ : Int), vo = .slice ao c cap ∧ av = .int .i64 at_ ∧ Hid (Below w.heap.size w wr) ∧ Hid (out.length = c) ∧ Hid (wr.ownsRow w.heap.size 2 1 (.slice ao c cap) c (out.map (Value.int .i64))) ∧ Hid (OkC n1 out) ∧ Hid ((i : Int) ∈ out) ∧ Hid (at_ = -1 ∨ ∃ k : Nat, k < n1 ∧ at_ = (k : Int)) ∧ Hid (wayC l0 ts1 i = resC n1 (folN l0 ts1) out at_)) (fun vo _ _ => n1 - slLen vo)
          case atStart => exact ⟨1, 1, _, [(i : Int)], _, rfl, rfl, HB3, rfl, HO3, HK3, by unfold Hid; simp, HRG.out i, HW3⟩
          case round =>
            obtain ⟨c, cap, ao, out, at_, rfl, rfl, HBEL2, HLEN, HOWN, HOK, HIN, HAT, HWY⟩ := hrel
            clear HO3 HW3 HK3
            have hcle : c ≤ n1 := HOK.out.le HLEN.out
            rcases HAT.out with rfl | ⟨k, hkn, rfl⟩
            · have HST : Hid (wayC l0 ts1 i = (out, -1)) := by unfold Hid; rw [HWY.out]; exact resC_stop (fun h => by omega)
              have HN := Lib.hid (HNX.out (by rw [HIS2.out, HST.out]; exact decide_eq_false (by dsimp only; omega)))
              clear HNX HFI HIS2 HAT HWY
              have hne : ((-1 : Int) == (i : Int)) = false := by simp
              go_wp2_with fail
              go_roundw
              case rel => exact ⟨i + 1, by omega, by go_num, HBEL2, HN⟩
              case measure => simp [intOf]; omega
            · have hkk : (0 : Int) ≤ (k : Int) := by omega
              rcases eq_ways (k : Int) (i : Int) with ⟨⟨e4, e5⟩, e6⟩ | ⟨⟨e4, e5⟩, e6⟩
              · have HST : Hid (wayC l0 ts1 i = (out, (i : Int))) := by unfold Hid; rw [HWY.out, e6]; exact resC_stop (fun h => h.2.2 HIN.out)
                have HR : Hid (circOf l0 ts1 = (out, 0)) := by
                  unfold Hid
                  rw [HFI.out (by rw [HIS2.out, HST.out]; exact decide_eq_true rfl), HST.out]
                clear HNX HFI HIS2 HAT HWY HST e6
                go_wp2_with fail
                go_ret2
                exact givesIs_of HR.out HBEL2.out HLEN.out HOWN.out
              · have HHAS : Hid (∀ W, Below wr.heap.size wr W → Calls Tryd.prog 72 #[.slice ao c cap, .int .i64 (k : Int)] W fun e w' => e = .returned (.bool (decide ((k : Int) ∈ out))) ∧ W = w') := fun W hW => l00HasG_any ao out c cap k W HLEN (rowI_RI HLEN ((Row.of HOWN.out).below hW).1) (by omega)
                by_cases hm : (k : Int) ∈ out
                · have HST : Hid (wayC l0 ts1 i = (out, (k : Int))) := by unfold Hid; rw [HWY.out]; exact resC_stop (fun h => h.2.2 hm)
                  have HN := Lib.hid (HNX.out (by rw [HIS2.out, HST.out]; exact decide_eq_false e6))
                  rw [decide_eq_true hm] at HHAS
                  clear HNX HFI HIS2 HAT HWY HST hm e6
                  go_wp2_with (go_at_call 72; refine (HHAS.out _ (Below.refl _ _)).mono ?_; rintro e w4 ⟨rfl, rfl⟩)
                  go_roundw
                  case rel => exact ⟨i + 1, by omega, by go_num, HBEL2, HN⟩
                  case measure => simp [intOf]; omega
                · have HST : Hid (wayC l0 ts1 i = resC n1 (folN l0 ts1) (out ++ [(k : Int)]) (folN l0 ts1 k)) := by unfold Hid; rw [HWY.out]; exact resC_step hkn hm
                  have HOK2 := Lib.hid (HOK.out.next hkn hm)
                  have hclt := HOK.out.lt HLEN.out hkn hm
                  have AK := Lib.hid (fun W hW => AFI.out W hW k hkn)
                  rw [decide_eq_false hm] at HHAS
                  have hw2 := HBEL2.out.size
                  have HGE : Hid (∀ q, (Value.slice ao c cap).ownBlock = some q → w.heap.size ≤ q) := fun q hq => (HOWN.out.lt q hq).1
                  clear HAT HWY hm e6 HOK
                  go_wp2_with (first | (go_at_call 72; refine (HHAS.out _ (Below.refl _ _)).mono ?_; rintro e w4 ⟨rfl, rfl⟩) | (at_builtin; refine wpList_append_lies _ rfl _ _ 24 rfl w.heap.size 2 HI.out.choose (.int .i64 0) 1 8 Tryd.underlying24 HI.out.choose_spec.1 HI.out.choose_spec.2.1 HI.out.choose_spec.2.2.1 HI.out.choose_spec.2.2.2 rfl (by decide) (.slice ao c cap) c (out.map (Value.int .i64)) rfl (HOWN.out.alloc _) ⟨wr.heap.size, 0, none⟩ 1 1 [.int .i64 (k : Int)] rfl rfl (news_oneG _ _ _) (by intro u hu; simp at hu; subst hu; rfl) (by omega) (by unfold maxLen; omega) (by omega) (by simp; omega) (wr.heap.size + 1) (by simp) ?_))
                  intro g cap' w5 hown1 hgrow hat hlt2
                  have B5 : Hid (Below w.heap.size w w5) := (HBEL2.out.alloc hw2 _).grown hgrow (by simp; omega) HGE.out
                  have O5 := Lib.hid hown1
                  clear hown1 hgrow hat hlt2 HHAS
                  go_wp2_with (go_at_call 71; refine (AK.out _ B5.out).mono ?_; rintro e w6 ⟨rfl, hb6⟩)
                  go_roundw
                  case rel => exact ⟨c + 1, cap', _, out ++ [(k : Int)], _, rfl, rfl, two_worlds B5.out hb6, by unfold Hid; rw [List.length_append, HLEN.out]; rfl, by unfold Hid; rw [List.map_append]; exact ((Row.of O5.out).below hb6).1, HOK2, by unfold Hid; exact List.mem_append_left _ HIN.out, HRG.out k, HST⟩
                  case measure => simp [slLen]; omega
      · have HR := Lib.hid (HNO.out (fun j hj => HALL.out j (by omega)))
        go_wp2
        go_ret2
        exact givesIs_nil HR.out HBEL.out
end Go.Proofs.YtkfeihnapcfkgaaDoor
