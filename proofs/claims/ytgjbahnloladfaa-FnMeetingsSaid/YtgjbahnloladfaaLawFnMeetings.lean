/-
  The walk of the law FnMeetings: it returns true at every input.
-/
import Derived.Test.YtgjbahnloladfaaCodeArg
import Derived.Test.YtgjbahnloladfaaDraw6r
import Derived.Test.YtgjbahnloladfaaFirstMeet
import Derived.Test.YtgjbahnloladfaaSpansImpl
import Derived.Deep.DeepCutAuto
namespace Go.Proofs.Ytgjbahnloladfaa.fnMeetings
open Go.RowKit

theorem capOf {lo hi : Nat} {E EI : TypeId} {a : Option Addr} {n c : Nat} {ts : List TRun} {w : World} (h : OwN lo hi E EI 2 cRun (.slice a n c) ts w) (hn : ts.length = n) : n ≤ c := by
  obtain ⟨es, h1, h2, _⟩ := h
  have ho := h2.1
  rw [hn] at ho
  rcases ho.2 with ⟨hv, hz⟩ | ⟨g, cap, cur, hv, _, _, h3, _⟩
  · omega
  · injection hv with _ _ h5
    omega
theorem rows_len (l : List Int) (t : TRun) {q : Nat} (h : t.1.length = q) : ((passOf l t).map rowOf).length = q := by rw [List.length_map, passOf_length]; exact h
theorem rows_leni (ps : List TPass) : ∀ i (h : i < (ps.map rowOf).length), (ps.map rowOf)[i].1.length ≤ 1048576 := fun i h => by simp [rowOf]
theorem ne_self (x : Int) : (x != x) = false := by simp

set_option maxRecDepth 100000 in
set_option maxHeartbeats 32000000 in
theorem walk {w : World} (v0 : Value) (x0 : Unit) (hw0 : CodeArg w v0 x0) (v1 : Value) (x1 : Unit) (hw1 : CodeArg w v1 x1) :
    Calls Try.prog 3 #[v0, v1] w fun e w' => e = .returned (.bool true) ∧ Below w.heap.size w w' := by
  obtain ⟨_, a, n, c, rfl, hn, hc⟩ := hw0
  obtain ⟨_, a', n', c', rfl, hn', hc'⟩ := hw1
  have HC : Hid (∀ W, Below w.heap.size w W → CodeIn W.heap.size a n W) := fun W hB => hc.later hB
  have HC' : Hid (∀ W, Below w.heap.size w W → CodeIn W.heap.size a' n' W) := fun W hB => hc'.later hB
  clear hc hc'
  by_cases hbig : 3000 < n ∨ 3000 < n'
  · go_enter Try.func3, Try.ntmps3
    go_wp2_with (go_at_call 11; refine (a2Long_yes _ _ _ _ _ _ _ hn hn' hbig).mono ?_; rintro e w' ⟨rfl, rfl⟩)
    go_ret
    exact ⟨rfl, Below.refl _ _⟩
  have hs1 : ¬ 3000 < n := by omega
  have hs2 : ¬ 3000 < n' := by omega
  clear hbig
  go_enter Try.func3, Try.ntmps3
  go_wp2_with (go_at_call 11; refine (a2Long_no _ _ _ _ _ _ _ hs1 hs2).mono ?_; rintro e w' ⟨rfl, rfl⟩)
  refine (a2Times_any a n c _ (HC.out _ (Below.refl _ _)) (by omega)).mono ?_
  rintro e w1 ⟨l, bt, nt, ct, rfl, hnt, HLT, ht1, ht6, hb1, hot⟩
  have B1 := Lib.hid hb1
  have RT1 := Lib.hid (rowI_RI hnt hot)
  clear hb1 hot
  go_wp2_with fail
  refine (a2Runs_any a' (some ⟨bt, 0, none⟩) n' c' nt ct _ (HC'.out _ B1.out) (by omega) ht1 (by omega)).mono ?_
  rintro e w2 ⟨ts, br, nr, cr, rfl, hnr, hr4, HZ, hb2, hor⟩
  have B2 := Lib.hid (two_worlds B1.out hb2)
  have RT2 := Lib.hid (RT1.out.below hb2)
  have HCAP : nr ≤ cr := capOf hor hnr.out
  have HV : Hid (rsB l ts = true) := drawn_ok (by rw [hnt.out]; exact ht1) (by rw [hnt.out]; exact ht6) HLT.out (by rw [hnr.out]; exact hr4) (by rw [hnt.out]; exact HZ.out)
  have RR2 : Hid (RN 1048576 2 cRun w2 (some ⟨br, 0, none⟩) ts) := hor.rd cRun_len hnr (fun i hi => by have := (rsB_run HV.out i hi).ways; omega)
  have WFL : Hid (∀ k ∈ l, (Lit.int .i64 k).wf = true) := fun k hk => by have := HLT.out k hk; simp [Lit.wf, IntKind.min, IntKind.max, IntKind.signed, IntKind.bits]; omega
  have WFT : Hid (∀ t ∈ ts, wfRun t) := fun t ht => by
    obtain ⟨_, _, h3, h4, h5⟩ := HZ.out t ht
    exact ⟨fun k hk => by have := h3 k hk; simp [Lit.wf, IntKind.min, IntKind.max, IntKind.signed, IntKind.bits]; omega, by simp [Lit.wf, IntKind.min, IntKind.max, IntKind.signed, IntKind.bits]; omega⟩
  have hnt' : nt ≤ 1048576 := by omega
  have hnr' : nr ≤ 1048576 := by omega
  clear hb2 hor RT1 B1 HC HC' hn hn' hs1 hs2
  go_wp2_with fail
  refine (implFirstMeetingC_any w2 l hnt RT2.out hnt' WFL HCAP ts hnr RR2.out hnr' WFT).mono ?_
  rintro e w3 ⟨rfl, hb3⟩
  have B3 := Lib.hid (two_worlds B2.out hb3)
  have RT3 := Lib.hid (RT2.out.below hb3)
  have RR3 := Lib.hid (RR2.out.below hb3)
  obtain ⟨mi, mk, mt, mc, hres⟩ : ∃ mi mk mt mc, meetOf l ts = (mi, mk, mt, mc) := ⟨_, _, _, _, rfl⟩
  have HM := Lib.hid hres
  rw [hres]
  dsimp only
  clear hb3 RT2 RR2 B2 hres
  have T3 : Hid (∀ W, Below w3.heap.size w3 W → RI W (some ⟨bt, 0, none⟩) l) := fun W hB => RT3.out.below hB
  have R3 : Hid (∀ W, Below w3.heap.size w3 W → RN 1048576 2 cRun W (some ⟨br, 0, none⟩) ts) := fun W hB => RR3.out.below hB
  go_wp2
  go_loopw [11] (fun xv wr => ∃ x : Nat, x ≤ nr ∧ xv = .int .i64 x ∧ Below w3.heap.size w3 wr ∧ Hid (∀ q, q < x → seekJ l ts q = none)) (fun xv _ => nr - (intOf xv).toNat)
  case atStart => exact ⟨0, by omega, rfl, Below.refl _ _, fun q hq => by omega⟩
  case round => as_aux_lemma =>
    obtain ⟨x, hx, rfl, hbel, HSX⟩ := hrel
    by_cases hltx : x < nr
    · have hkx : x < ts.length := by rw [hnr.out]; exact hltx
      obtain ⟨_, _, ai, ci, hbe, hblr, hri, hqi, hcc⟩ := RR3.out.at_ x hkx
      injection hbe with hbe
      injection hbe with e1 e2
      subst e1 e2
      have HX0 : Hid (∀ W, Below w3.heap.size w3 W → W.cell? ⟨br, x * 2, none⟩ = some (.slice ai ts[x].1.length ci) ∧ W.cell? ⟨br, x * 2 + 1, none⟩ = some (.int .i64 ts[x].2)) := fun W hB => by
        have h0 := (hB.cell (p := ⟨br, 0 + x * 2 + 0, none⟩) hblr).trans (hcc 0 _ rfl)
        have h1 := (hB.cell (p := ⟨br, 0 + x * 2 + 1, none⟩) hblr).trans (hcc 1 _ rfl)
        simp only [Nat.zero_add, Nat.add_zero] at h0 h1
        exact ⟨h0, h1⟩
      have HRI : Hid (∀ W, Below w3.heap.size w3 W → RI W ai ts[x].1) := fun W hB => hri.below hB
      have HONE := Lib.hid (drawn_one HV.out x hkx)
      have WFX := Lib.hid (WFT.out _ (List.getElem_mem hkx))
      clear hri hcc
      obtain ⟨tx, htx⟩ : ∃ tx, ts[x] = tx := ⟨_, rfl⟩
      have HTX := Lib.hid htx
      rw [htx] at HX0 hqi HRI HONE WFX
      clear htx
      obtain ⟨wx, sx⟩ := tx
      dsimp only at HX0 hqi HRI
      obtain ⟨qx, hql⟩ : ∃ qx, wx.length = qx := ⟨_, rfl⟩
      have HQX := Lib.hid hql
      rw [hql] at HX0 hqi
      clear hql
      have hx0 : (0 : Int) ≤ (x : Int) := by omega
      have hx1 : (x : Int) < (nr : Int) := by omega
      obtain ⟨c0, c1⟩ := HX0.out _ hbel
      have HBEL := Lib.hid hbel
      clear hbel
      go_wp2_with fail
      refine (implSpansOf_any _ l hnt (T3.out _ HBEL.out) hnt' WFL (wx, sx) HQX (HRI.out _ HBEL.out) hqi WFX).mono ?_
      intro e w5 hgv
      rw [spansOf_good HONE.out] at hgv
      obtain ⟨hb5, vs, rfl, ho5⟩ := hgv
      dsimp only at ho5 ⊢
      have HPL := rows_len l (wx, sx) HQX.out
      obtain ⟨aR, cR, rfl⟩ := ho5.shape
      rw [HPL] at ho5 ⊢
      have RX5 : Hid (RN 1048576 1 cInt64S w5 aR ((passOf l (wx, sx)).map rowOf)) := ho5.rd cInt64S_len HPL (rows_leni _)
      have B5 := Lib.hid (two_worlds HBEL.out hb5)
      clear hb5 ho5 HPL c0 c1
      obtain ⟨c0, c1⟩ := HX0.out _ B5.out
      go_wp2_with fail
      refine (implEndOfRun_any _ l hnt (T3.out _ B5.out) hnt' WFL (wx, sx) HQX (HRI.out _ B5.out) hqi WFX).mono ?_
      rintro e w6 ⟨rfl, hb6⟩
      rw [endOf_good HONE.out]
      dsimp only
      rw [HQX.out]
      have RX6 : Hid (∀ W, Below w6.heap.size w6 W → RN 1048576 1 cInt64S W aR ((passOf l (wx, sx)).map rowOf)) := fun W hB => (RX5.out.below hb6).below hB
      have B6 := Lib.hid (two_worlds B5.out hb6)
      have T6 : Hid (∀ W, Below w6.heap.size w6 W → RI W (some ⟨bt, 0, none⟩) l) := fun W hB => T3.out _ (B6.out.trans (hB.mono B6.out.size))
      have X6 : Hid (∀ W, Below w6.heap.size w6 W → W.cell? ⟨br, x * 2, none⟩ = some (.slice ai qx ci) ∧ W.cell? ⟨br, x * 2 + 1, none⟩ = some (.int .i64 sx)) := fun W hB => HX0.out _ (B6.out.trans (hB.mono B6.out.size))
      have I6 : Hid (∀ W, Below w6.heap.size w6 W → RI W ai wx) := fun W hB => HRI.out _ (B6.out.trans (hB.mono B6.out.size))
      have HOK := Lib.hid (rsB_one HONE.out)
      clear hb6 RX5 B5 c0 c1
      obtain ⟨c0, c1⟩ := X6.out _ (Below.refl _ _)
      go_wp2
      go_loopw [16, 17] (fun av jv wr => ∃ j : Nat, j ≤ qx ∧ jv = .int .i64 j ∧ av = .int .i64 (tickAt l wx sx j) ∧ Below w6.heap.size w6 wr) (fun _ jv _ => qx - (intOf jv).toNat)
      case atStart => exact ⟨0, by omega, rfl, by rw [tickAt_zero], Below.refl _ _⟩
      case round => as_aux_lemma =>
        obtain ⟨j, hj, rfl, rfl, hbelj⟩ := hrel
        clear c0 c1
        by_cases hltj : j < qx
        · have hkj : j < wx.length := by rw [HQX.out]; exact hltj
          have hkp : j < (passOf l (wx, sx)).length := by rw [passOf_length]; exact hkj
          have HS := tickAt_succ l wx sx j hkj
          have htk := HOK.out.tick j (by omega)
          obtain ⟨hx, htm, ht1, ht2⟩ := HOK.out.tm_at j hkj
          obtain ⟨bA, oA, bi, oi, kc, rfl, _, _, y0, y1, y2, y3⟩ := row3 (RX6.out _ hbelj) j hkp
          rw [passOf_get l (wx, sx) j hkj] at y1 y2 y3
          dsimp only at y1 y2 y3
          rw [HS] at y3
          obtain ⟨bw, ow, rfl, _, z0⟩ := (I6.out _ hbelj).at_ j hkj
          obtain ⟨_, _, hbe, _, t0⟩ := (T6.out _ hbelj).at_ _ hx
          injection hbe with hbe
          injection hbe with e1 e2
          subst e1 e2
          rw [← htm, Nat.zero_add] at t0
          have hw0 := (HOK.out.tube j hkj).1
          have hlx : wx[j].toNat < nt := by rw [← hnt.out]; exact hx
          have HS1 := Lib.hid HS
          clear htm hx HS
          generalize htt : tm l wx[j] = tt at y3 t0 ht1 ht2 HS1
          clear htt
          generalize wx[j] = xj at y1 z0 t0 hw0 hlx
          obtain ⟨xn, rfl⟩ : ∃ xn : Nat, xj = xn := ⟨xj.toNat, by omega⟩
          rw [Int.toNat_natCast] at t0 hlx
          generalize tickAt l wx sx j = tk at htk HS1 y2 y3
          obtain ⟨c0, c1⟩ := X6.out _ hbelj
          have hk0 : (0 : Int) ≤ (j : Int) := by omega
          have hk1 : (j : Int) < (qx : Int) := by omega
          have hx0 : (0 : Int) ≤ (xn : Int) := by omega
          have hx1 : (xn : Int) < (nt : Int) := by omega
          have hwr : IntKind.i64.wrap (tk + tt) = tk + tt := IntWalk.i64_in _ (by omega)
          have h3a : (0 : Int) < 3 := by omega
          have h3b : (1 : Int) < 3 := by omega
          have h3c : (2 : Int) < 3 := by omega
          have HBJ := Lib.hid hbelj
          clear hbelj
          go_wp2
          go_quiet (fail)
          go_wp2
          go_roundw
          case rel => exact ⟨j + 1, by omega, by go_num, by rw [HS1.out], two_worlds HBJ.out (by (repeat (first | exact Below.refl _ _ | refine Below.drew ?_ | refine Below.drewN' ?_ _ | refine Below.alloc ?_ (by first | (simp; done) | (simp; omega)) _ | refine Below.setCell ?_ (by first | (simp; done) | (simp; omega)) _)); done)⟩
          case measure => simp [intOf]; omega
        · have hjq : qx = j := by omega
          subst hjq
          obtain ⟨w7, hw7⟩ : ∃ w7, w7 = wr := ⟨wr, rfl⟩
          subst hw7
          have HB7 := Lib.hid hbelj
          have B67 := Lib.hid (B6.out.trans (hbelj.mono B6.out.size))
          clear hbelj hltj hj
          have HPX : Hid (psOf l ts x = passOf l (wx, sx)) := by unfold Hid; rw [psOf_at l ts x hkx, HTX.out]
          generalize tickAt l wx sx qx = tend
          go_wp2
          go_loopw [18] (fun yv wr => ∃ y : Nat, y ≤ x ∧ yv = .int .i64 y ∧ Below w7.heap.size w7 wr ∧ Hid (∀ q, q < y → mx (psOf l ts x) (psOf l ts q) = none)) (fun yv _ => x - (intOf yv).toNat)
          case atStart => exact ⟨0, by omega, rfl, Below.refl _ _, fun q hq => by omega⟩
          case round => as_aux_lemma =>
            obtain ⟨y, hy, rfl, hbely, HSY⟩ := hrel
            by_cases hlty : y < x
            · have hky : y < ts.length := by omega
              obtain ⟨_, _, aj, cj, hbe, hblr2, hrj, hqj, hcj⟩ := RR3.out.at_ y hky
              injection hbe with hbe
              injection hbe with e1 e2
              subst e1 e2
              have HY0 : Hid (∀ W, Below w3.heap.size w3 W → W.cell? ⟨br, y * 2, none⟩ = some (.slice aj ts[y].1.length cj) ∧ W.cell? ⟨br, y * 2 + 1, none⟩ = some (.int .i64 ts[y].2)) := fun W hB => by
                have h0 := (hB.cell (p := ⟨br, 0 + y * 2 + 0, none⟩) hblr2).trans (hcj 0 _ rfl)
                have h1 := (hB.cell (p := ⟨br, 0 + y * 2 + 1, none⟩) hblr2).trans (hcj 1 _ rfl)
                simp only [Nat.zero_add, Nat.add_zero] at h0 h1
                exact ⟨h0, h1⟩
              have HRJ : Hid (∀ W, Below w3.heap.size w3 W → RI W aj ts[y].1) := fun W hB => hrj.below hB
              have HONEY := Lib.hid (drawn_one HV.out y hky)
              have WFY := Lib.hid (WFT.out _ (List.getElem_mem hky))
              clear hrj hcj
              obtain ⟨ty, hty⟩ : ∃ ty, ts[y] = ty := ⟨_, rfl⟩
              have HTY := Lib.hid hty
              rw [hty] at HY0 hqj HRJ HONEY WFY
              clear hty
              obtain ⟨wy, sy⟩ := ty
              dsimp only at HY0 hqj HRJ
              obtain ⟨qy, hql⟩ : ∃ qy, wy.length = qy := ⟨_, rfl⟩
              have HQY := Lib.hid hql
              rw [hql] at HY0 hqj
              clear hql
              have hy0 : (0 : Int) ≤ (y : Int) := by omega
              have hy1 : (y : Int) < (x : Int) := by omega
              have hy2 : (y : Int) < (nr : Int) := by omega
              have hb3y : Below w3.heap.size w3 wr := B67.out.trans (hbely.mono B67.out.size)
              have HB3Y := Lib.hid hb3y
              have HBY := Lib.hid hbely
              obtain ⟨c0, c1⟩ := HY0.out _ hb3y
              clear hbely hb3y
              go_wp2_with fail
              refine (specSpansOf_any _ l hnt (T3.out _ HB3Y.out) hnt' WFL (wy, sy) HQY (HRJ.out _ HB3Y.out) hqj WFY).mono ?_
              intro e w8 hgv
              rw [spansOf_good HONEY.out] at hgv
              obtain ⟨hb8, vs, rfl, ho8⟩ := hgv
              dsimp only at ho8 ⊢
              have HPL := rows_len l (wy, sy) HQY.out
              obtain ⟨aS, cS, rfl⟩ := ho8.shape
              rw [HPL] at ho8 ⊢
              have RY8 : Hid (∀ W, Below w8.heap.size w8 W → RN 1048576 1 cInt64S W aS ((passOf l (wy, sy)).map rowOf)) := fun W hB => (ho8.rd cInt64S_len HPL (rows_leni _)).below hB
              have B78 := Lib.hid (two_worlds HBY.out hb8)
              have RX8 : Hid (∀ W, Below w8.heap.size w8 W → RN 1048576 1 cInt64S W aR ((passOf l (wx, sx)).map rowOf)) := fun W hB => RX6.out _ (HB7.out.trans ((B78.out.trans (hB.mono B78.out.size)).mono HB7.out.size))
              have HPY : Hid (psOf l ts y = passOf l (wy, sy)) := by unfold Hid; rw [psOf_at l ts y hky, HTY.out]
              have HLX : Hid ((passOf l (wx, sx)).length = qx) := passRR_len (t := (wx, sx)) HQX.out
              have HLY : Hid ((passOf l (wy, sy)).length = qy) := passRR_len (t := (wy, sy)) HQY.out
              have HTU : Hid (∀ k (hk : k < (passOf l (wx, sx)).length), 0 ≤ (passOf l (wx, sx))[k].2.2) := fun k hk => by
                have hk' : k < wx.length := by rw [passOf_length] at hk; exact hk
                rw [passOf_get l (wx, sx) k hk']
                exact (HOK.out.tube k hk').1
              have HFIN : Hid (∀ k (hk : k < (passOf l (wx, sx)).length), mx (passOf l (wx, sx)) (passOf l (wy, sy)) = some k → mi = x ∧ mk = y ∧ mt = (passOf l (wx, sx))[k].2.2 ∧ mc = 0) := fun k hk hm => by
                obtain ⟨hk2, hr⟩ := meetOf_at HV.out hkx hlty (by rw [HPX.out, HPY.out]; exact hm) HSY.out HSX.out
                have hk' : k < wx.length := by rw [passOf_length] at hk; exact hk
                rw [HM.out] at hr
                rw [passOf_get l (wx, sx) k hk']
                have e : ts[x].1[k] = wx[k] := by simp only [HTX.out]
                rw [e] at hr
                injection hr with h1 hr
                injection hr with h2 hr
                injection hr with h3 h4
                exact ⟨h1, h2, h3, h4⟩
              clear hb8 ho8 HPL c0 c1
              generalize passOf l (wx, sx) = ps at RX8 HLX HTU HFIN HPX
              generalize passOf l (wy, sy) = qs at RY8 HLY HFIN HPY
              go_wp2
              go_loopw [19, 22] (fun mv av wr => ∃ (p : Nat) (M : Int), p ≤ qx ∧ av = .int .i64 p ∧ mv = .int .i64 M ∧ Below w8.heap.size w8 wr ∧ Hid ((M = -1 ∧ ∀ q (hq : q < ps.length), q < p → qs.any (meetP ps[q]) = false) ∨ (∃ k, ∃ hk : k < ps.length, p = k + 1 ∧ M = ps[k].2.2 ∧ mx ps qs = some k))) (fun _ av _ => qx - (intOf av).toNat)
              case atStart => exact ⟨0, -1, by omega, rfl, rfl, Below.refl _ _, .inl ⟨rfl, fun q _ hq => by omega⟩⟩
              case round => as_aux_lemma =>
                obtain ⟨p, M, hp, rfl, rfl, hbelp, HST⟩ := hrel
                obtain ⟨w9, hw9⟩ : ∃ w9, w9 = wr := ⟨wr, rfl⟩
                subst hw9
                have HB9 := Lib.hid hbelp
                clear hbelp
                rcases HST.out with ⟨rfl, hnone⟩ | ⟨k, hk, hpk, hMk, hmx⟩
                · have HNONE := Lib.hid hnone
                  clear hnone HST
                  by_cases hltp : p < qx
                  · have hkp : p < ps.length := by rw [HLX.out]; exact hltp
                    obtain ⟨P, hP⟩ : ∃ P, ps[p] = P := ⟨_, rfl⟩
                    have HPP := Lib.hid hP
                    obtain ⟨bA, oA, bi, oi, kc, rfl, hbA, hbi, y0, y1, y2, y3⟩ := row3 (RX8.out _ HB9.out) p hkp
                    rw [hP] at y1 y2 y3
                    clear hP
                    have HY := Lib.hid (And.intro y0 (And.intro y1 (And.intro y2 y3)))
                    clear y0 y1 y2 y3
                    have hk0 : (0 : Int) ≤ (p : Int) := by omega
                    have hk1 : (p : Int) < (qx : Int) := by omega
                    go_wp2
                    go_loopw [19, 23] (fun mv bv wr => ∃ (b : Nat) (M : Int), b ≤ qy ∧ bv = .int .i64 b ∧ mv = .int .i64 M ∧ Below w9.heap.size w9 wr ∧ Hid ((M = -1 ∧ ∀ q (hq : q < qs.length), q < b → meetP P qs[q] = false) ∨ (M = P.2.2 ∧ qs.any (meetP P) = true))) (fun _ bv _ => qy - (intOf bv).toNat)
                    case atStart => exact ⟨0, -1, by omega, rfl, rfl, Below.refl _ _, .inl ⟨rfl, fun q _ hq => by omega⟩⟩
                    case round => as_aux_lemma =>
                      obtain ⟨b, M, hb, rfl, rfl, hbelb, HSB⟩ := hrel
                      by_cases hltb : b < qy
                      · have hkb : b < qs.length := by rw [HLY.out]; exact hltb
                        have hb8b : Below w8.heap.size w8 wr := HB9.out.trans (hbelb.mono HB9.out.size)
                        have HYES : Hid (meetP P qs[b] = true → qs.any (meetP P) = true) := fun h => any_yes b hkb h
                        have HNO : Hid (meetP P qs[b] = false → ((M = -1 ∧ ∀ q (hq : q < qs.length), q < b + 1 → meetP P qs[q] = false) ∨ (M = P.2.2 ∧ qs.any (meetP P) = true))) := fun ht => by
                          rcases HSB.out with ⟨h1, h2⟩ | h
                          · exact .inl ⟨h1, fun q hq hqb => if e : q = b then (by subst e; exact ht) else h2 q hq (by omega)⟩
                          · exact .inr h
                        obtain ⟨bB, oB, bj, oj, kj, rfl, _, _, z0, z1, z2, z3⟩ := row3 (RY8.out _ hb8b) b hkb
                        obtain ⟨y0, y1, y2, y3⟩ := HY.out
                        rw [← hbelb.cell (p := ⟨_, _, none⟩) hbA] at y0
                        rw [← hbelb.cell (p := ⟨_, _, none⟩) hbi] at y1 y2 y3
                        generalize qs[b] = Q at z1 z2 z3 HYES HNO
                        clear hb8b
                        have HPP2 := HPP
                        obtain ⟨pa, pb, pc⟩ := P
                        obtain ⟨qa, qb, qc⟩ := Q
                        dsimp only at y1 y2 y3 z1 z2 z3
                        have hj0 : (0 : Int) ≤ (b : Int) := by omega
                        have hj1 : (b : Int) < (qy : Int) := by omega
                        have h3a : (0 : Int) < 3 := by omega
                        have h3b : (1 : Int) < 3 := by omega
                        have h3c : (2 : Int) < 3 := by omega
                        have HBB := Lib.hid hbelb
                        clear hbelb HSB
                        rcases eq_ways pc qc with ⟨⟨e1, e2⟩, e3⟩ | ⟨⟨e1, e2⟩, e3⟩
                        · clear e3
                          cases d1 : decide (max pa qa < min pb qb) with
                          | true =>
                            have HYB := Lib.hid (HYES.out (by unfold meetP; dsimp only; rw [e1, d1]; rfl))
                            clear HYES HNO
                            go_wp2
                            go_quiet (fail)
                            go_wp2
                            go_roundw
                            case rel => exact ⟨b + 1, pc, by omega, by go_num, rfl, two_worlds HBB.out (by (repeat (first | exact Below.refl _ _ | refine Below.drew ?_ | refine Below.drewN' ?_ _ | refine Below.alloc ?_ (by first | (simp; done) | (simp; omega)) _ | refine Below.setCell ?_ (by first | (simp; done) | (simp; omega)) _)); done), .inr ⟨rfl, HYB.out⟩⟩
                            case measure => simp [intOf]; omega
                          | false =>
                            have HS2 := Lib.hid (HNO.out (by unfold meetP; dsimp only; rw [e1, d1]; rfl))
                            clear HYES HNO
                            go_wp2
                            go_quiet (fail)
                            go_wp2
                            go_roundw
                            case rel => exact ⟨b + 1, M, by omega, by go_num, rfl, two_worlds HBB.out (by (repeat (first | exact Below.refl _ _ | refine Below.drew ?_ | refine Below.drewN' ?_ _ | refine Below.alloc ?_ (by first | (simp; done) | (simp; omega)) _ | refine Below.setCell ?_ (by first | (simp; done) | (simp; omega)) _)); done), HS2.out⟩
                            case measure => simp [intOf]; omega
                        · have HS2 := Lib.hid (HNO.out (by unfold meetP; dsimp only; rw [e1]; rfl))
                          clear HYES HNO e3
                          go_wp2
                          go_quiet (fail)
                          go_wp2
                          go_roundw
                          case rel => exact ⟨b + 1, M, by omega, by go_num, rfl, two_worlds HBB.out (by (repeat (first | exact Below.refl _ _ | refine Below.drew ?_ | refine Below.drewN' ?_ _ | refine Below.alloc ?_ (by first | (simp; done) | (simp; omega)) _ | refine Below.setCell ?_ (by first | (simp; done) | (simp; omega)) _)); done), HS2.out⟩
                          case measure => simp [intOf]; omega
                      · have HS3 : Hid ((M = -1 ∧ ∀ q (hq : q < ps.length), q < p + 1 → qs.any (meetP ps[q]) = false) ∨ (∃ k, ∃ hk : k < ps.length, p + 1 = k + 1 ∧ M = ps[k].2.2 ∧ mx ps qs = some k)) := by
                          rcases HSB.out with ⟨h1, h2⟩ | ⟨h1, h2⟩
                          · refine .inl ⟨h1, fun q hq hqp => ?_⟩
                            by_cases e : q = p
                            · subst e
                              rw [HPP.out]
                              exact any_no (fun z hz => h2 z hz (by rw [HLY.out] at hz; omega))
                            · exact HNONE.out q hq (by omega)
                          · refine .inr ⟨p, hkp, rfl, by rw [HPP.out]; exact h1, mx_some p hkp (by rw [HPP.out]; exact h2) HNONE.out⟩
                        have HB10 := Lib.hid (two_worlds HB9.out hbelb)
                        clear HSB hbelb
                        go_wp2
                        go_roundw
                        case rel => exact ⟨p + 1, M, by omega, by go_num, rfl, HB10.out, HS3.out⟩
                        case measure => simp [intOf]; omega
                  · have HMN : Hid (mx ps qs = none) := mx_none (fun q hq => HNONE.out q hq (by rw [HLX.out] at hq; omega))
                    have HSY2 : Hid (∀ q, q < y + 1 → mx (psOf l ts x) (psOf l ts q) = none) := fun q hq => if e : q = y then (by subst e; rw [HPX.out, HPY.out]; exact HMN.out) else HSY.out q (by omega)
                    have HB10 := Lib.hid (B78.out.trans (HB9.out.mono B78.out.size))
                    go_wp2
                    go_roundw
                    case rel => exact ⟨y + 1, by omega, by go_num, HB10.out, HSY2.out⟩
                    case measure => simp [intOf]; omega
                · have hM0 : 0 ≤ M := by rw [hMk]; exact HTU.out k hk
                  obtain ⟨rfl, rfl, h3, rfl⟩ := HFIN.out k hk hmx
                  obtain rfl : mt = M := h3.trans hMk.symm
                  clear HST hMk h3 hmx hpk
                  have HEND := Lib.hid (two_worlds B3.out (two_worlds (B67.out.trans (B78.out.mono B67.out.size)) HB9.out))
                  by_cases hltp : p < qx
                  · go_wp2
                    go_ret
                    exact ⟨rfl, HEND.out⟩
                  · go_wp2
                    go_ret
                    exact ⟨rfl, HEND.out⟩
            · have hyx : x = y := by omega
              subst hyx
              have HSX2 : Hid (∀ q, q < x + 1 → seekJ l ts q = none) := fun q hq => if e : q = x then (by subst e; exact seekJ_none HSY.out) else HSX.out q (by omega)
              go_wp2
              go_roundw
              case rel => exact ⟨x + 1, by omega, by go_num, B67.out.trans (hbely.mono B67.out.size), HSX2.out⟩
              case measure => simp [intOf]; omega
    · have HNO := Lib.hid (meetOf_none HV.out (fun q hq => HSX.out q (by rw [hnr.out] at hq; omega)))
      rw [HM.out] at HNO
      have hmc : mc = 3 := by have := HNO.out; injection this with _ h; injection h with _ h; injection h
      subst hmc
      go_wp2
      go_ret
      exact ⟨rfl, two_worlds B3.out hbel⟩
end Go.Proofs.Ytgjbahnloladfaa.fnMeetings
