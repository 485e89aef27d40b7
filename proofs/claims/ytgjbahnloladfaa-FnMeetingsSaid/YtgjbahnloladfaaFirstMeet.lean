/-
  FirstMeeting: the program's walk.
-/
import Derived.Test.YtgjbahnloladfaaMeet
import Derived.Test.YtgjbahnloladfaaMeetSpec
namespace Go.Proofs.Ytgjbahnloladfaa
open Go.RowKit

theorem box2 {w : World} {b : Nat} {u v : Value} (h : Box w b [u, v]) : w.cell? ⟨b, 0, none⟩ = some u ∧ w.cell? ⟨b, 1, none⟩ = some v := ⟨h.2 0 _ rfl, h.2 1 _ rfl⟩
theorem and4 {a b c d : Prop} (h : a ∧ b) (k : c ∧ d) : a ∧ b ∧ c ∧ d := ⟨h.1, h.2, k.1, k.2⟩

set_option maxHeartbeats 8000000 in
theorem implFirstMeetingC_any (w : World) {a0 : Option Addr} {n0 c0 : Nat} (l0 : List Int) (hn0 : Hid (l0.length = n0)) (h0 : RI w a0 l0) (hs0 : n0 ≤ 1048576) (_wf0 : Hid (∀ k ∈ l0, (Lit.int .i64 k).wf = true)) {a1 : Option Addr} {n1 c1 : Nat} (hcap : n1 ≤ c1) (ts1 : List TRun) (hn1 : Hid (ts1.length = n1)) (h1 : RN 1048576 2 cRun w a1 ts1) (hs1 : n1 ≤ 1048576) (_wf1 : Hid (∀ t ∈ ts1, wfRun t)) :
    Calls Try.prog 14 #[.slice a0 n0 c0, .slice a1 n1 c1] w fun e w' => e = .returned (.tuple #[.int .i64 (meetOf l0 ts1).1, .int .i64 (meetOf l0 ts1).2.1, .int .i64 (meetOf l0 ts1).2.2.1, .int .i64 (meetOf l0 ts1).2.2.2]) ∧ Below w.heap.size w w' := by
  have HA : Hid (∀ w', Below w.heap.size w w' → RI w' a0 l0) := fun w' h => h0.below h
  have HB := Lib.hid h1
  have CK := checkRuns_any a0 a1 l0 ts1 n0 c0 n1 c1 w hn0 h0 hs0 hn1 h1 hs1
  clear h0 h1
  cases hv : rsB l0 ts1 with
  | false =>
    have HC : rcode l0 ts1 = 1 := by unfold rcode; rw [hv]; rfl
    rw [HC] at CK
    have HR := Lib.hid (meetOf_bad hv)
    clear HC hv
    go_enter Try.func14, Try.ntmps14
    go_wp2_with (go_at_call 46; refine CK.mono ?_; rintro e w1 ⟨rfl, hb1⟩)
    refine bodyPost_ret (v := .tuple #[.int .i64 0, .int .i64 0, .int .i64 0, .int .i64 1]) (by simp [results, Try.results14, go_sem]) rfl ⟨by rw [HR.out], hb1⟩
  | true =>
    have HC : rcode l0 ts1 = 0 := by unfold rcode; rw [hv]; rfl
    rw [HC] at CK
    have HV := Lib.hid hv
    have hfew : n1 ≤ 12 := by have := rsB_few hv; rw [hn1.out] at this; exact this
    clear HC hv
    go_enter Try.func14, Try.ntmps14
    go_wp2_with (go_at_call 46; refine CK.mono ?_; rintro e w1 ⟨rfl, hb1⟩)
    have HB1 := Lib.hid hb1
    clear hb1 CK
    go_loopw [23] (fun iv wr => ∃ i : Nat, i ≤ n1 ∧ iv = .int .i64 i ∧ Below w.heap.size w wr ∧ Hid (∀ q, q < i → seekJ l0 ts1 q = none)) (fun iv _ => n1 - (intOf iv).toNat)
    case atStart => exact ⟨0, by omega, rfl, HB1.out, fun q hq => by omega⟩
    case round =>
      obtain ⟨i, hi, rfl, hbel, HBI⟩ := hrel
      obtain ⟨wo, hwo⟩ : ∃ wo, wo = wr := ⟨wr, rfl⟩
      subst hwo
      by_cases hlt : i < n1
      · have hka : i < ts1.length := by rw [hn1.out]; exact hlt
        obtain ⟨b, off, ai, ci, rfl, hbl, hri, hqi, hc⟩ := HB.out.at_ i hka
        have x0 := (hbel.cell (p := ⟨b, off + i * 2 + 0, none⟩) hbl).trans (hc 0 _ rfl)
        have x1 := (hbel.cell (p := ⟨b, off + i * 2 + 1, none⟩) hbl).trans (hc 1 _ rfl)
        simp only [Nat.add_zero] at x0
        have HRI : Hid (∀ w', Below w.heap.size w w' → RI w' ai ts1[i].1) := fun w' h => hri.below h
        clear hri hc
        obtain ⟨ti, hti⟩ : ∃ ti, ts1[i] = ti := ⟨_, rfl⟩
        have HTI := Lib.hid hti
        rw [hti] at x0 x1 hqi HRI
        clear hti
        obtain ⟨wi, si⟩ := ti
        dsimp only at x0 x1 hqi HRI
        obtain ⟨qi, hql⟩ : ∃ qi, wi.length = qi := ⟨_, rfl⟩
        have HQI := Lib.hid hql
        rw [hql] at x0 hqi
        clear hql
        have hk0 : (0 : Int) ≤ (i : Int) := by omega
        have hk1 : (i : Int) < (n1 : Int) := by omega
        have hk2 : (i : Int) ≤ (c1 : Int) := by omega
        have hwr := hbel.size
        have HBEL := Lib.hid hbel
        clear hbel
        have PX := Lib.hid (Box.alloc wo [.slice ai qi ci, .int .i64 si] 34)
        have BX : Hid (Below w.heap.size w (wo.alloc (.cells #[.slice ai qi ci, .int .i64 si] 34))) := HBEL.out.alloc hwr _
        go_wp2
        go_loopw [32] (fun iv wr => ∃ j : Nat, j ≤ i ∧ iv = .int .i64 j ∧ Below (wo.alloc (.cells #[.slice ai qi ci, .int .i64 si] 34)).heap.size (wo.alloc (.cells #[.slice ai qi ci, .int .i64 si] 34)) wr ∧ Hid (∀ q, q < j → mx (psOf l0 ts1 i) (psOf l0 ts1 q) = none)) (fun iv _ => i - (intOf iv).toNat)
        case atStart => exact ⟨0, by omega, rfl, Below.refl _ _, fun q hq => by omega⟩
        case round =>
          obtain ⟨j, hj, rfl, hbelj, HBJ⟩ := hrel
          have hwr2 : wo.heap.size < wr.heap.size := by have := hbelj.size; simp at this; omega
          have hbelw : Below w.heap.size w wr := BX.out.trans (hbelj.mono BX.out.size)
          by_cases hltj : j < i
          · have hkb : j < ts1.length := by omega
            obtain ⟨b2, off2, aj, cj, hbe, hbl2, hrj, hqj, hcj⟩ := HB.out.at_ j hkb
            injection hbe with hbe
            injection hbe with e1 e2
            subst e1 e2
            have y0 := (hbelw.cell (p := ⟨b, off + j * 2 + 0, none⟩) hbl2).trans (hcj 0 _ rfl)
            have y1 := (hbelw.cell (p := ⟨b, off + j * 2 + 1, none⟩) hbl2).trans (hcj 1 _ rfl)
            simp only [Nat.add_zero] at y0
            have HRJ : Hid (∀ w', Below w.heap.size w w' → RI w' aj ts1[j].1) := fun w' h => hrj.below h
            clear hrj hcj
            obtain ⟨tj, htj⟩ : ∃ tj, ts1[j] = tj := ⟨_, rfl⟩
            have HTJ := Lib.hid htj
            rw [htj] at y0 y1 hqj HRJ
            clear htj
            obtain ⟨wj, sj⟩ := tj
            dsimp only at y0 y1 hqj HRJ
            obtain ⟨qj, hql⟩ : ∃ qj, wj.length = qj := ⟨_, rfl⟩
            have HQJ := Lib.hid hql
            rw [hql] at y0 hqj
            clear hql
            have hj0 : (0 : Int) ≤ (j : Int) := by omega
            have hj1 : (j : Int) < (i : Int) := by omega
            have PI : Hid (∀ W, Below w.heap.size w W → Calls Try.prog 48 #[.slice a0 n0 c0, .agg #[.slice ai qi ci, .int .i64 si]] W (GivesR 72 3 cPass (passOf l0 (wi, si)) qi W)) := fun W h => passagesOf_any a0 ai l0 wi si n0 c0 qi ci W hn0 (HA.out _ h) HQI.out (HRI.out _ h) (wf_run HV.out i hka HTI.out)
            have PJ : Hid (∀ W, Below w.heap.size w W → Calls Try.prog 48 #[.slice a0 n0 c0, .agg #[.slice aj qj cj, .int .i64 sj]] W (GivesR 72 3 cPass (passOf l0 (wj, sj)) qj W)) := fun W h => passagesOf_any a0 aj l0 wj sj n0 c0 qj cj W hn0 (HA.out _ h) HQJ.out (HRJ.out _ h) (wf_run HV.out j hkb HTJ.out)
            have HLI : Hid ((passOf l0 (wi, si)).length = qi) := passRR_len (t := (wi, si)) HQI.out
            have HLJ : Hid ((passOf l0 (wj, sj)).length = qj) := passRR_len (t := (wj, sj)) HQJ.out
            have PX1 := (Box.below PX.out hbelj).below ((Below.refl _ _).alloc (Nat.le_refl _) (.cells #[.slice aj qj cj, .int .i64 sj] 34))
            have PX2 := Lib.hid (Box.below PX1 (Below.refl _ _).drew)
            have PY2 := Lib.hid (Box.below (Box.alloc wr [.slice aj qj cj, .int .i64 sj] 34) (Below.refl _ _).drew)
            have BY : Hid (Below w.heap.size w (wr.alloc (.cells #[.slice aj qj cj, .int .i64 sj] 34)).drew) := (hbelw.alloc hbelw.size _).drew
            have BJ : Hid (Below (wo.alloc (.cells #[.slice ai qi ci, .int .i64 si] 34)).heap.size (wo.alloc (.cells #[.slice ai qi ci, .int .i64 si] 34)) (wr.alloc (.cells #[.slice aj qj cj, .int .i64 sj] 34)).drew) := (hbelj.alloc hbelj.size _).drew
            clear PX1 hbelj hbelw
            go_wp2
            go_region_held3 (fun w' => w'.cell? ⟨wo.heap.size, 0, none⟩ = some (.slice ai qi ci) ∧ w'.cell? ⟨wo.heap.size, 1, none⟩ = some (.int .i64 si) ∧ w'.cell? ⟨wr.heap.size, 0, none⟩ = some (.slice aj qj cj) ∧ w'.cell? ⟨wr.heap.size, 1, none⟩ = some (.int .i64 sj))
              (first | with_reducible exact and4 (box2 (PX2.out)) (box2 (PY2.out)) | with_reducible exact and4 (box2 (PX2.out.below hb3)) (box2 (PY2.out.below hb3)) | with_reducible exact and4 (box2 (PX2.out.below (two_worlds hb3 hb4))) (box2 (PY2.out.below (two_worlds hb3 hb4))) | with_reducible exact and4 (box2 (PX2.out.below (two_worlds hb3 (two_worlds hb4 hb5)))) (box2 (PY2.out.below (two_worlds hb3 (two_worlds hb4 hb5)))))
              (first | (go_at_call 48; (with_reducible refine Calls.mono (PI.out _ BY.out) ?_); rintro e w3 ⟨g3, rfl, hg3, hb3, ho3⟩) | (go_at_call 48; (with_reducible refine Calls.mono (PJ.out _ (BY.out.trans (hb3.mono BY.out.size))) ?_); rintro e w4 ⟨g4, rfl, hg4, hb4, ho4⟩) | (go_at_call 47; (with_reducible refine Calls.mono (meetingTube_any _ _ (passOf l0 (wi, si)) (passOf l0 (wj, sj)) qi qj qi qj _ HLI ((own_RR cPass_len HLI ho3).below hb4) hqi HLJ (own_RR cPass_len HLJ ho4) hqj) ?_); rintro e w5 ⟨rfl, hb5⟩))
            all_goals
              have hb35 := two_worlds hb3 (two_worlds hb4 hb5)
              have HE := Lib.hid (BY.out.trans (hb35.mono BY.out.size))
              have HJ5 := Lib.hid (BJ.out.trans (hb35.mono BJ.out.size))
              clear hb35 hb3 hb4 hb5 ho3 ho4 y0 y1 hg3 hg4
              have HPI : Hid (psOf l0 ts1 i = passOf l0 (wi, si)) := by unfold Hid; rw [psOf_at l0 ts1 i hka, HTI.out]
              have HPJ : Hid (psOf l0 ts1 j = passOf l0 (wj, sj)) := by unfold Hid; rw [psOf_at l0 ts1 j hkb, HTJ.out]
              cases hmx : mx (passOf l0 (wi, si)) (passOf l0 (wj, sj)) with
              | some k =>
                obtain ⟨hk, hr⟩ := meetOf_at HV.out hka hltj (by rw [HPI.out, HPJ.out]; exact hmx) HBJ.out HBI.out
                have ht := mtube_some hmx (mx_lt hmx)
                have hkw : k < wi.length := by have := mx_lt hmx; rw [passOf_length] at this; exact this
                have hx : (passOf l0 (wi, si))[k]'(mx_lt hmx) = (tickAt l0 wi si k, tickAt l0 wi si (k + 1), wi[k]) := passOf_get l0 (wi, si) k hkw
                have hy : ts1[i].1[k] = wi[k] := by simp only [HTI.out]
                rw [hx] at ht
                rw [hy] at hr
                have HR := Lib.hid hr
                rw [ht]
                clear ht hx hy hr hmx
                generalize wi[k] = x at HR
                dsimp only
                go_wp2
                refine bodyPost_ret (v := .tuple #[.int .i64 (i : Int), .int .i64 (j : Int), .int .i64 x, .int .i64 0]) (by simp [results, Try.results14, go_sem]) rfl ⟨by rw [HR.out], HE.out⟩
              | none =>
                have HBJ2 : Hid (∀ q, q < j + 1 → mx (psOf l0 ts1 i) (psOf l0 ts1 q) = none) := fun q hq => if e : q = j then (by subst e; rw [HPI.out, HPJ.out]; exact hmx) else HBJ.out q (by omega)
                rw [mtube_none hmx]
                clear hmx
                dsimp only
                go_wp2
                go_roundw
                case rel => exact ⟨j + 1, by omega, by go_num, HJ5.out, HBJ2.out⟩
                case measure => simp [intOf]; omega
          · have hji : j = i := by omega
            subst hji
            have HSJ : Hid (∀ q, q < j + 1 → seekJ l0 ts1 q = none) := fun q hq => if e : q = j then (by subst e; exact seekJ_none HBJ.out) else HBI.out q (by omega)
            go_wp2
            go_roundw
            case rel => exact ⟨j + 1, by omega, by go_num, hbelw, HSJ.out⟩
            case measure => simp [intOf]; omega
      · have HR := Lib.hid (meetOf_none HV.out (fun q hq => HBI.out q (by rw [hn1.out] at hq; omega)))
        go_wp2
        refine bodyPost_ret (v := .tuple #[.int .i64 0, .int .i64 0, .int .i64 0, .int .i64 3]) (by simp [results, Try.results14, go_sem]) rfl ⟨by rw [HR.out], hbel⟩

theorem implFirstMeeting_any (w : World) {a0 : Option Addr} {n0 c0 : Nat} (l0 : List Int) (hn0 : Hid (l0.length = n0)) (h0 : RI w a0 l0) (hs0 : n0 ≤ 1048576) (wf0 : Hid (∀ k ∈ l0, (Lit.int .i64 k).wf = true)) {a1 : Option Addr} {n1 : Nat} (ts1 : List TRun) (hn1 : Hid (ts1.length = n1)) (h1 : RN 1048576 2 cRun w a1 ts1) (hs1 : n1 ≤ 1048576) (wf1 : Hid (∀ t ∈ ts1, wfRun t)) :
    Calls Try.prog 14 #[.slice a0 n0 c0, .slice a1 n1 n1] w fun e w' => e = .returned (.tuple #[.int .i64 (meetOf l0 ts1).1, .int .i64 (meetOf l0 ts1).2.1, .int .i64 (meetOf l0 ts1).2.2.1, .int .i64 (meetOf l0 ts1).2.2.2]) ∧ Below w.heap.size w w' :=
  implFirstMeetingC_any w l0 hn0 h0 hs0 wf0 (Nat.le_refl _) ts1 hn1 h1 hs1 wf1
end Go.Proofs.Ytgjbahnloladfaa
