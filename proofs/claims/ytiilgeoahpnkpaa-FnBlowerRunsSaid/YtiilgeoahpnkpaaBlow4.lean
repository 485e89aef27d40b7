/-
  Blowers: the walk of the program's bank of all sets, and what is read of it.
-/
import Derived.Test.YtiilgeoahpnkpaaBlow3
namespace Go.Proofs.Ytiilgeoahpnkpaa
open Go.RowKit

theorem infoBlower : (Try.prog.info? 45).map (fun i => (i.zero, i.size, i.bytes)) = some (some (.agg #[.int .i64 0, .int .i64 0, .int .i64 0]), 3, 24) := by kernel_rfl
theorem own_keptB {w w' : World} {lo : Nat} {e : TypeId} {size n : Nat} {v : Value} {xs : List Value} (h : w.ownsRow lo e size v n xs) (hb : Below w.heap.size w w') : w'.ownsRow lo e size v n xs := by
  refine ⟨h.1, ?_⟩
  rcases h.2 with h2 | ⟨g, cap, cur, hv, hlo, hg, h3⟩
  · exact .inl h2
  · have hlt : g < w.heap.size := (Array.getElem?_eq_some_iff.1 hg).1
    exact .inr ⟨g, cap, cur, hv, hlo, (hb.block g hlt).trans hg, h3⟩
theorem with_any (t1 t2 t3 u1 u2 u3 : Int) (w : World) (h1 : -100000 ≤ t1 ∧ t1 ≤ 100000) (h2 : -100000 ≤ t2 ∧ t2 ≤ 100000) (h3 : -100000 ≤ t3 ∧ t3 ≤ 100000) (k1 : -100000 ≤ u1 ∧ u1 ≤ 100000) (k2 : -100000 ≤ u2 ∧ u2 ≤ 100000) (k3 : -100000 ≤ u3 ∧ u3 ≤ 100000) :
    Calls Try.prog 100 #[.agg #[.int .i64 t1, .int .i64 t2, .int .i64 t3], .agg #[.int .i64 u1, .int .i64 u2, .int .i64 u3]] w fun e w' => e = .returned (.agg #[.int .i64 (t1 + u1), .int .i64 (t2 + u2), .int .i64 (t3 + u3)]) ∧ Below w.heap.size w w' := by
  have e1 := wrI (x := t1 + u1) (by omega)
  have e2 := wrI (x := t2 + u2) (by omega)
  have e3 := wrI (x := t3 + u3) (by omega)
  go_enter Try.func100, Try.ntmps100
  go_wp2
  exact bodyPost_ret (v := .agg #[.int .i64 (t1 + u1), .int .i64 (t2 + u2), .int .i64 (t3 + u3)]) (by simp [results, Try.results100, go_sem]) rfl ⟨rfl, (by repeat (first | exact Below.refl _ _ | refine Below.alloc ?_ (by simp; try omega) _ | refine Below.setCell ?_ (by simp; try omega) _))⟩
theorem bkA_bd {ts : List TBlower} (h : blsB ts = true) (k s : Nat) (hk : k ≤ ts.length) : (0 ≤ (bkA ts k s).1 ∧ (bkA ts k s).1 ≤ 4000) ∧ (0 ≤ (bkA ts k s).2.1 ∧ (bkA ts k s).2.1 ≤ 40000) ∧ 0 ≤ (bkA ts k s).2.2 ∧ (bkA ts k s).2.2 ≤ 40000 := sums_bd h s hk
theorem news_cell3 {w : World} {B : Nat} {t1 t2 t3 : Int} (h0 : w.cell? ⟨B, 0, none⟩ = some (.int .i64 t1)) (h1 : w.cell? ⟨B, 1, none⟩ = some (.int .i64 t2)) (h2 : w.cell? ⟨B, 2, none⟩ = some (.int .i64 t3)) : ∀ j u, [Value.int .i64 t1, .int .i64 t2, .int .i64 t3][j]? = some u → w.cell? ((⟨B, 0, none⟩ : Addr).add j) = some u := by
  intro j u hj
  rw [Addr.add_lit, Nat.zero_add]
  match j, hj with
  | 0, hj => simp at hj; subst hj; exact h0
  | 1, hj => simp at hj; subst hj; exact h1
  | 2, hj => simp at hj; subst hj; exact h2

set_option maxRecDepth 20000 in
set_option maxHeartbeats 4000000 in
theorem newBank_any (a : Option Addr) (ts : List TBlower) (n ca : Nat) (w : World) (hn : Hid (ts.length = n)) (ha : RR 3 cBlower w a ts) (hb : blsB ts = true) :
    Calls Try.prog 58 #[.slice a n ca] w fun e w' => (∃ g c, e = .returned (.slice (some ⟨g, 0, none⟩) (2 ^ n) c) ∧ RR 3 cBlower w' (some ⟨g, 0, none⟩) (bankL ts n)) ∧ Below w.heap.size w w' := by
  have HR : Hid (∀ W, Below w.heap.size w W → RR 3 cBlower W a ts) := fun W hW => ha.below hW
  have HI : Hid (∃ i0 : TypeInfo, Try.prog.info? 45 = some i0 ∧ i0.zero = some (.agg #[.int .i64 0, .int .i64 0, .int .i64 0]) ∧ i0.size = 3 ∧ i0.bytes = 24) := info_parts infoBlower
  have HB := Lib.hid hb
  have hn4 : n ≤ 4 := by rw [← hn.out]; exact (blsB_of hb).1
  clear ha hb
  go_enter Try.func58, Try.ntmps58
  go_wp2
  go_loopw [3, 12] (fun sv iv wr => ∃ (k g c N : Nat), k ≤ n ∧ sv = .slice (some ⟨g, 0, none⟩) N c ∧ iv = .int .i64 (k : Int) ∧ Hid (N = 2 ^ k) ∧ Hid (Below w.heap.size w wr) ∧ Hid (wr.ownsRow w.heap.size 45 3 (.slice (some ⟨g, 0, none⟩) N c) N ((bankL ts k).flatMap cBlower))) (fun _ iv _ => n - (intOf iv).toNat)
  case atStart =>
    refine ⟨0, w.heap.size, 1, 1, by omega, rfl, rfl, rfl, (by repeat (first | exact Below.refl _ _ | refine Below.alloc ?_ (by simp; try omega) _ | refine Below.setCell ?_ (by simp; try omega) _)), ?_⟩
    exact ⟨rfl, .inr ⟨w.heap.size, 1, #[.int .i64 0, .int .i64 0, .int .i64 0], rfl, Nat.le_refl _, heap_alloc_new w _, Nat.le_refl _, by unfold maxLen; omega, rfl, rfl⟩⟩
  case round =>
    obtain ⟨wo, hwo⟩ : ∃ wo, wo = wr := ⟨wr, rfl⟩
    subst hwo
    obtain ⟨k, g, c, N, hk, rfl, rfl, HN, HBEL, HOWN⟩ := hrel
    have hws := HBEL.out.size
    have hgl : g < wo.heap.size := (HOWN.out.lt g rfl).2
    have hge : w.heap.size ≤ g := (HOWN.out.lt g rfl).1
    by_cases hlt : k < n
    · have hka : k < ts.length := by rw [hn.out]; exact hlt
      have hN16 : 1 ≤ N ∧ N ≤ 16 := ⟨by rw [HN.out]; exact Nat.two_pow_pos k, by rw [HN.out]; exact pow_le16 (by omega)⟩
      obtain ⟨bb, ob, rfl, hbl, hx⟩ := (HR.out _ HBEL.out).at_ k hka
      have x0 := hx 0 _ rfl
      have x1 := hx 1 _ rfl
      have x2 := hx 2 _ rfl
      simp only [Nat.add_zero] at x0
      have htb := (blsB_of HB.out).2 k hka
      have HNEXT : Hid (∀ j, j < N → bankJ ts k (j + 1) = bankJ ts k j ++ [((bkA ts k j).1 + ts[k].1, (bkA ts k j).2.1 + ts[k].2.1, (bkA ts k j).2.2 + ts[k].2.2)]) := fun j hj => bankJ_next ts (by rw [← HN.out]; exact hj) hka
      generalize ts[k] = t at x0 x1 x2 htb HNEXT
      obtain ⟨t1, t2, t3⟩ := t
      dsimp only at x0 x1 x2 htb HNEXT
      have hk0 : (0 : Int) ≤ (k : Int) := by omega
      have hk1 : (k : Int) < (n : Int) := by omega
      have HOLD : Hid (∀ p u, ((bankL ts k).flatMap cBlower)[p]? = some u → wo.cell? ⟨g, p, none⟩ = some u) := fun p u hp => ownsRow_cell HOWN.out p u hp
      have HOWA : Hid (∀ o, (wo.alloc o).ownsRow w.heap.size 45 3 (.slice (some ⟨g, 0, none⟩) (N + 0) c) (N + 0) ((bankJ ts k 0).flatMap cBlower)) := fun o => by rw [bankJ_zero]; exact HOWN.out.alloc o
      have HBA : Hid (∀ o, Below wo.heap.size wo (wo.alloc o)) := fun o => (Below.refl _ _).alloc (Nat.le_refl _) _
      clear hx HOWN
      go_wp2_with fail
      go_loopw [3, 18] (fun sv iv wi => ∃ (j g2 c2 : Nat), j ≤ N ∧ sv = .slice (some ⟨g2, 0, none⟩) (N + j) c2 ∧ iv = .int .i64 (j : Int) ∧ g2 ≠ wo.heap.size ∧ wo.heap.size < wi.heap.size ∧ Hid (Below w.heap.size w wi) ∧ Hid (wi.ownsRow w.heap.size 45 3 (.slice (some ⟨g2, 0, none⟩) (N + j) c2) (N + j) ((bankJ ts k j).flatMap cBlower)) ∧ Hid (∀ p u, ((bankL ts k).flatMap cBlower)[p]? = some u → wi.cell? ⟨g, p, none⟩ = some u) ∧ Hid (wi.cell? ⟨wo.heap.size, 0, none⟩ = some (.int .i64 t1) ∧ wi.cell? ⟨wo.heap.size, 1, none⟩ = some (.int .i64 t2) ∧ wi.cell? ⟨wo.heap.size, 2, none⟩ = some (.int .i64 t3))) (fun _ iv _ => N - (intOf iv).toNat)
      case atStart =>
        refine ⟨0, g, c, by omega, by go_num, rfl, by omega, by simp, (by repeat (first | exact HBEL.out | refine Below.alloc ?_ (by first | omega | (simp; done) | (simp; omega)) _ | refine Below.setCell ?_ (by first | omega | (simp; done) | (simp; omega)) _)), HOWA.out _, fun p u hp => ((HBA.out _).cell (p := ⟨g, p, none⟩) hgl).trans (HOLD.out p u hp), ?_⟩
        refine ⟨?_, ?_, ?_⟩ <;> simp [go_sem]
      case round =>
        obtain ⟨j, g2, c2, hj, rfl, rfl, hg2, hwi, HBI, HOI, HOC, HZ⟩ := hrel
        have hgi : g < wr.heap.size := by omega
        have hgi2 : g2 < wr.heap.size := (HOI.out.lt g2 rfl).2
        by_cases hjN : j < N
        · have hjl : j < (bankL ts k).length := by rw [bankL_len, ← HN.out]; exact hjN
          have y0 := HOC.out (j * 3 + 0) _ (by rw [rflat_get cBlower_len (bankL ts k) j hjl 0 (by omega)]; rfl)
          have y1 := HOC.out (j * 3 + 1) _ (by rw [rflat_get cBlower_len (bankL ts k) j hjl 1 (by omega)]; rfl)
          have y2 := HOC.out (j * 3 + 2) _ (by rw [rflat_get cBlower_len (bankL ts k) j hjl 2 (by omega)]; rfl)
          obtain ⟨z0, z1, z2⟩ := HZ.out
          rw [bankL_at] at y0 y1 y2
          simp only [Nat.add_zero] at y0
          have hub := bkA_bd HB.out k j (by omega)
          have HNX := Lib.hid (HNEXT.out j hjN)
          have HSTEP : Hid (∀ W, Below wr.heap.size wr W → ∀ w5, W.grownBy w5 (some g2) → (∀ q u, ((bankJ ts k j).flatMap cBlower)[q]? = some u → w5.cell? ⟨g2, q, none⟩ = some u) → (∀ p u, ((bankL ts k).flatMap cBlower)[p]? = some u → w5.cell? ⟨g, p, none⟩ = some u) ∧ w5.cell? ⟨wo.heap.size, 0, none⟩ = some (.int .i64 t1) ∧ w5.cell? ⟨wo.heap.size, 1, none⟩ = some (.int .i64 t2) ∧ w5.cell? ⟨wo.heap.size, 2, none⟩ = some (.int .i64 t3)) := by
            intro W hW w5 hgr hold
            have hz : ∀ i v, wr.cell? ⟨wo.heap.size, i, none⟩ = some v → w5.cell? ⟨wo.heap.size, i, none⟩ = some v := fun i v h =>
              hgr.cell ((hW.cell (p := ⟨wo.heap.size, i, none⟩) hwi).trans h) (by simp; omega)
            refine ⟨fun p u hp => ?_, hz 0 _ HZ.out.1, hz 1 _ HZ.out.2.1, hz 2 _ HZ.out.2.2⟩
            by_cases hgg : g = g2
            · rw [hgg]
              apply hold
              obtain ⟨r, hr⟩ := bankJ_pre ts k j
              rw [hr, List.flatMap_append, List.getElem?_append_left (List.getElem?_eq_some_iff.1 hp).1]
              exact hp
            · exact hgr.cell ((hW.cell (p := ⟨g, p, none⟩) hgi).trans (HOC.out p u hp)) (by simp; exact hgg)
          generalize bkA ts k j = u at y0 y1 y2 hub HNX
          obtain ⟨u1, u2, u3⟩ := u
          dsimp only at y0 y1 y2 hub HNX
          have HW := fun W => with_any u1 u2 u3 t1 t2 t3 W (by omega) (by omega) (by omega) (by omega) (by omega) (by omega)
          have hj0 : (0 : Int) ≤ (j : Int) := by omega
          have hj1 : (j : Int) < (N : Int) := by omega
          have hws2 := HBI.out.size
          have HOA : Hid (∀ o, (wr.alloc o).ownsRow w.heap.size 45 3 (.slice (some ⟨g2, 0, none⟩) (N + j) c2) (N + j) ((bankJ ts k j).flatMap cBlower)) := fun o => HOI.out.alloc o
          have HG2 : Hid (w.heap.size ≤ g2) := (HOI.out.lt g2 rfl).1
          clear HNEXT HOC HZ HOI
          go_wp2_with (first | (go_at_call 100; refine (HW _).mono ?_; rintro e w4 ⟨rfl, hb4⟩; have HB4 := Lib.hid hb4; have hs4 : wr.heap.size + 1 ≤ w4.heap.size := by { have := hb4.size; simp at this; omega }; clear hb4) | (at_builtin; refine wpList_append_keeps _ rfl _ _ 68 rfl w.heap.size 45 HI.out.choose (.agg #[.int .i64 0, .int .i64 0, .int .i64 0]) 3 24 Try.underlying68 HI.out.choose_spec.1 HI.out.choose_spec.2.1 HI.out.choose_spec.2.2.1 HI.out.choose_spec.2.2.2 rfl (by decide) g2 (N + j) c2 ((bankJ ts k j).flatMap cBlower) rfl ((own_keptB (HOA.out _) HB4.out).alloc _) ⟨w4.heap.size, 0, none⟩ 1 1 [.int .i64 (u1 + t1), .int .i64 (u2 + t2), .int .i64 (u3 + t3)] rfl rfl ?_ (by intro u hu; simp at hu; rcases hu with rfl | rfl | rfl <;> rfl) (by omega) (by unfold maxLen; omega) (by omega) (by simp; omega) ?_))
          · exact news_cell3 (by simp [go_sem]) (by simp [go_sem]) (by simp [go_sem])
          intro g' cap' w5 hown1 hgrow hlt5 hat hold
          have HBW : Hid (∀ o, Below wr.heap.size wr (w4.alloc o)) := fun o => ((((Below.refl _ _).alloc (Nat.le_refl _) _).trans (HB4.out.mono (by simp))).alloc (by omega) o)
          have H5 := Lib.hid (HSTEP.out _ (HBW.out _) w5 hgrow hold)
          have B5 : Hid (Below w.heap.size w w5) := Below.grown (HBI.out.trans ((HBW.out _).mono hws2)) hgrow (by simp; omega) (fun q hq => by injection hq with hq; subst hq; exact HG2.out)
          have O5 : Hid (w5.ownsRow w.heap.size 45 3 (.slice (some ⟨g', 0, none⟩) (N + j + 1) cap') (N + j + 1) ((bankJ ts k (j + 1)).flatMap cBlower)) := by
            unfold Hid
            rw [HNX.out, List.flatMap_append]
            exact hown1
          have hg5 : g' ≠ wo.heap.size := by { rcases hat with hat | hat <;> (try simp at hat) <;> omega }
          have hw5 : wo.heap.size < w5.heap.size := by have := hgrow.size; simp at this; omega
          clear hown1 hgrow hat hold HSTEP HOA HB4 HBW
          go_wp2
          go_roundw
          case rel => exact ⟨j + 1, g', cap', by omega, by go_num, by go_num, hg5, hw5, B5, O5, H5.out.1, H5.out.2⟩
          case measure => simp [intOf]; omega
        · have hjn : j = N := by omega
          subst hjn
          have O6 : Hid (wr.ownsRow w.heap.size 45 3 (.slice (some ⟨g2, 0, none⟩) (j + j) c2) (j + j) ((bankL ts (k + 1)).flatMap cBlower)) := by
            unfold Hid
            have := HOI.out
            have hE := bankJ_end ts k
            rw [← HN.out] at hE
            rw [hE] at this
            exact this
          have HN2 : Hid (j + j = 2 ^ (k + 1)) := by unfold Hid; rw [HN.out, Nat.pow_succ]; omega
          clear HOI HOC HZ HNEXT
          go_wp2
          go_roundw
          case rel => exact ⟨k + 1, g2, c2, j + j, by omega, by go_num, by go_num, HN2, HBI, O6⟩
          case measure => simp [intOf]; omega
    · have hkn : k = n := by omega
      subst hkn
      have HRR := Lib.hid (own_RR cBlower_len (show Hid ((bankL ts k).length = N) from (bankL_len ts k).trans HN.out.symm) HOWN.out)
      clear HOWN
      go_wp2
      go_ret
      exact ⟨⟨g, c, by rw [← HN.out]; rfl, HRR.out⟩, HBEL.out⟩
set_option maxHeartbeats 1000000 in
theorem hasPower_any (g n c s : Nat) (f : Int) (ts : List TBlower) (N : Nat) (w : World) (hN : Hid (N = 2 ^ n)) (hr : RR 3 cBlower w (some ⟨g, 0, none⟩) (bankL ts n)) (hs : s < N) :
    Calls Try.prog 82 #[.slice (some ⟨g, 0, none⟩) N c, .int .i64 s, .int .i64 f] w fun e w' => e = .returned (.bool (decide (f ≤ sumS (pwN ts) s n))) ∧ w = w' := by
  have hsl : s < (bankL ts n).length := by rw [bankL_len, ← hN.out]; exact hs
  obtain ⟨b, off, e1, hbl, hx⟩ := hr.at_ s hsl
  injection e1 with e1
  injection e1 with e1 e2
  subst e1 e2
  have x0 := hx 0 _ rfl
  rw [bankL_at, Nat.zero_add] at x0
  simp only [Nat.add_zero] at x0
  have HX : Hid ((bkA ts n s).1 = sumS (pwN ts) s n) := rfl
  generalize (bkA ts n s).1 = x at x0 HX
  have hk0 : (0 : Int) ≤ (s : Int) := by omega
  have hk1 : (s : Int) < (N : Int) := by omega
  clear hr hx
  go_enter Try.func82, Try.ntmps82
  go_wp2
  go_ret
  exact ⟨ret_bool (by rw [← HX.out]), rfl⟩
theorem andNotI : ∀ s b : Fin 16, bits BinOp.andNot IntKind.i64 ((s : Nat) : Int) ((b : Nat) : Int) = ((lessS s b : Nat) : Int) := by decide +kernel
set_option maxHeartbeats 1000000 in
theorem costAfter_any (g n c bf s : Nat) (ts : List TBlower) (N : Nat) (w : World) (hb : blsB ts = true) (hn : Hid (ts.length = n)) (hN : Hid (N = 2 ^ n)) (hr : RR 3 cBlower w (some ⟨g, 0, none⟩) (bankL ts n)) (hs : s < N) (hbf : bf < N) :
    Calls Try.prog 77 #[.slice (some ⟨g, 0, none⟩) N c, .int .i64 bf, .int .i64 s] w fun e w' => e = .returned (.int .i64 (stepS ts bf s)) ∧ ∃ m, w' = w.drewN m := by
  have h4 : n ≤ 4 := by rw [← hn.out]; exact (blsB_of hb).1
  have h16 : N ≤ 16 := by rw [hN.out]; exact pow_le16 h4
  have hle := lessS_le s bf
  have hsl : s < (bankL ts n).length := by rw [bankL_len, ← hN.out]; exact hs
  have hzl : lessS s bf < (bankL ts n).length := by rw [bankL_len, ← hN.out]; omega
  obtain ⟨b, off, e1, hbl, hx⟩ := hr.at_ s hsl
  injection e1 with e1
  injection e1 with e1 e2
  subst e1 e2
  obtain ⟨b, off, e1, _, hy⟩ := hr.at_ (lessS s bf) hzl
  injection e1 with e1
  injection e1 with e1 e2
  subst e1 e2
  have x1 := hx 1 _ rfl
  have y2 := hy 2 _ rfl
  rw [bankL_at, Nat.zero_add] at x1 y2
  have hw := wrI (x := (bkA ts n s).2.1 + (bkA ts n (lessS s bf)).2.2) (by have h1 := bkA_bd hb n s (by rw [hn.out]; omega); have h2 := bkA_bd hb n (lessS s bf) (by rw [hn.out]; omega); omega)
  have HX : Hid ((bkA ts n s).2.1 + (bkA ts n (lessS s bf)).2.2 = stepS ts bf s) := by unfold Hid stepS; rw [hn.out]; rfl
  generalize (bkA ts n s).2.1 = x at x1 HX hw
  generalize (bkA ts n (lessS s bf)).2.2 = y at y2 HX hw
  have hz := andNotI ⟨s, by omega⟩ ⟨bf, by omega⟩
  dsimp only at hz
  generalize lessS s bf = z at y2 hz hle
  have hk0 : (0 : Int) ≤ (s : Int) := by omega
  have hk1 : (s : Int) < (N : Int) := by omega
  have hk2 : (0 : Int) ≤ (z : Int) := by omega
  have hk3 : (z : Int) < (N : Int) := by omega
  clear hr hx hy hb
  go_enter Try.func77, Try.ntmps77
  go_wp2_with fail
  go_quiet (fail)
  go_wp2
  go_ret
  exact ⟨ret_int HX.out, ⟨_, rfl⟩⟩
end Go.Proofs.Ytiilgeoahpnkpaa
