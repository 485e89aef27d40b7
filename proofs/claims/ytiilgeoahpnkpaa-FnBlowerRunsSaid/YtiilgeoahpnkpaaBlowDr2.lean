/-
  The draw of blowers that are seldom not valid.
-/
import Derived.Test.YtiilgeoahpnkpaaBlowDr1
namespace Go.Proofs.Ytiilgeoahpnkpaa
open Go.RowKit

theorem blow_set0 {W : World} {lo g n cap : Nat} {ts : List TBlower} (h : W.ownsRow lo 45 3 (.slice (some ⟨g, 0, none⟩) n cap) n (ts.flatMap cBlower)) (kn : Nat) (hk : kn < ts.length) (x : Int) :
    W.cell? ⟨g, kn * 3, none⟩ = some (.int .i64 ts[kn].1) ∧ W.frozen? ⟨g, kn * 3, none⟩ = false ∧ (W.setCell ⟨g, kn * 3, none⟩ (.int .i64 x)).ownsRow lo 45 3 (.slice (some ⟨g, 0, none⟩) n cap) n ((ts.set kn (x, ts[kn].2)).flatMap cBlower) := by
  refine ⟨ownsRow_cell h _ _ (rflat_get cBlower_len ts kn hk 0 (by omega)), ownsRow_frozen h _, ?_⟩
  have h2 := ownsRow_set h (kn * 3 + 0) (.int .i64 x)
  rw [rflat_set cBlower_len ts kn hk 0 (by omega) (.int .i64 x) (x, ts[kn].2) rfl] at h2
  exact h2
theorem blow_set1 {W : World} {lo g n cap : Nat} {ts : List TBlower} (h : W.ownsRow lo 45 3 (.slice (some ⟨g, 0, none⟩) n cap) n (ts.flatMap cBlower)) (kn : Nat) (hk : kn < ts.length) (x : Int) :
    W.cell? ⟨g, kn * 3 + 1, none⟩ = some (.int .i64 ts[kn].2.1) ∧ W.frozen? ⟨g, kn * 3 + 1, none⟩ = false ∧ (W.setCell ⟨g, kn * 3 + 1, none⟩ (.int .i64 x)).ownsRow lo 45 3 (.slice (some ⟨g, 0, none⟩) n cap) n ((ts.set kn (ts[kn].1, x, ts[kn].2.2)).flatMap cBlower) := by
  refine ⟨ownsRow_cell h _ _ (rflat_get cBlower_len ts kn hk 1 (by omega)), ownsRow_frozen h _, ?_⟩
  have h2 := ownsRow_set h (kn * 3 + 1) (.int .i64 x)
  rw [rflat_set cBlower_len ts kn hk 1 (by omega) (.int .i64 x) (ts[kn].1, x, ts[kn].2.2) rfl] at h2
  exact h2
theorem blow_set2 {W : World} {lo g n cap : Nat} {ts : List TBlower} (h : W.ownsRow lo 45 3 (.slice (some ⟨g, 0, none⟩) n cap) n (ts.flatMap cBlower)) (kn : Nat) (hk : kn < ts.length) (x : Int) :
    W.cell? ⟨g, kn * 3 + 2, none⟩ = some (.int .i64 ts[kn].2.2) ∧ W.frozen? ⟨g, kn * 3 + 2, none⟩ = false ∧ (W.setCell ⟨g, kn * 3 + 2, none⟩ (.int .i64 x)).ownsRow lo 45 3 (.slice (some ⟨g, 0, none⟩) n cap) n ((ts.set kn (ts[kn].1, ts[kn].2.1, x)).flatMap cBlower) := by
  refine ⟨ownsRow_cell h _ _ (rflat_get cBlower_len ts kn hk 2 (by omega)), ownsRow_frozen h _, ?_⟩
  have h2 := ownsRow_set h (kn * 3 + 2) (.int .i64 x)
  rw [rflat_set cBlower_len ts kn hk 2 (by omega) (.int .i64 x) (ts[kn].1, ts[kn].2.1, x) rfl] at h2
  exact h2
theorem blows_wf {ts : List TBlower} {kn : Nat} {u : TBlower} (h : smBs ts) (hu : wfBlower u) : wfBs (ts.set kn u) := by
  intro t ht
  rcases List.mem_or_eq_of_mem_set ht with ht | rfl
  · exact smB_wf (h t ht)
  · exact hu
/-- Five blowers, of which the first i have a power. -/
def mk5 (i : Nat) : List TBlower := (List.range 5).map fun j => if j < i then (5, 0, 0) else (0, 0, 0)
theorem mk5_len (i : Nat) : (mk5 i).length = 5 := by simp [mk5]
theorem mk5_next : ∀ i, i < 5 → (mk5 i).set i (5, (mk5 i)[i]?.elim (0, 0) (·.2)) = mk5 (i + 1) := by decide
theorem mk5_at {i : Nat} (hi : i < 5) : (mk5 i)[i]'(by rw [mk5_len]; exact hi) = (0, 0, 0) := by simp [mk5]
theorem mk5_nx {i : Nat} (hi : i < 5) : (mk5 i).set i (5, ((mk5 i)[i]'(by rw [mk5_len]; exact hi)).2) = mk5 (i + 1) := by
  rw [mk5_at hi]
  have := mk5_next i hi
  have e : (mk5 i)[i]? = some (0, 0, 0) := by rw [List.getElem?_eq_getElem (by rw [mk5_len]; exact hi), mk5_at hi]
  rw [e] at this
  exact this
theorem mk5_sm : smBs (mk5 5) := by
  intro t ht
  have : t = (5, 0, 0) := by
    obtain ⟨j, hj, rfl⟩ := List.mem_map.1 ht
    have := List.mem_range.1 hj
    rw [if_pos this]
  subst this
  exact ⟨by decide, by decide, by decide⟩
theorem made5 (w : World) : (w.alloc (.cells (madeCells (Value.cells (.agg #[.int .i64 0, .int .i64 0, .int .i64 0])) (5 * 3)) 45)).ownsRow w.heap.size 45 3 (.slice (some ⟨w.heap.size, 0, none⟩) 5 5) 5 ((mk5 0).flatMap cBlower) :=
  ⟨rfl, .inr ⟨w.heap.size, 5, _, rfl, Nat.le_refl _, heap_alloc_new w _, Nat.le_refl _, by unfold maxLen; omega, by rw [size_madeCells], by kernel_rfl⟩⟩
set_option maxRecDepth 100000 in
set_option maxHeartbeats 8000000 in
theorem bentB_any (B g K : Nat) (w : World) (hK : K < 100000) (h : Src B g K w) :
    Calls Try.prog 55 #[.pointer (some ⟨g, 0, none⟩)] w (DrawnRs 45 3 cBlower B g (K + 60) 5 wfBs w) := by
  have hgl := h.lt
  have hmk : ∀ W : World, (Instr.makeSlice 24 (.int .i64 5) (.int .i64 5)).run Try.prog W = .ok (.slice (some ⟨W.heap.size, 0, none⟩) 5 5) (W.alloc (.cells (madeCells (Value.cells (.agg #[.int .i64 0, .int .i64 0, .int .i64 0])) (5 * 3)) 45)) := fun W => by
    obtain ⟨i0, hi, hz0, hz1, hz2⟩ := info_parts infoBlower
    have hm := run_make_rowN (P := Try.prog) 24 45 i0 _ Try.underlying24 hi hz0 .i64 .i64 5 5 (Nat.le_refl _) (by rw [hz2]; omega) (by omega) W
    rw [hz1] at hm
    exact hm
  have HMK := Lib.hid hmk
  clear hmk
  go_enter Try.func55, Try.ntmps55
  go_wp2_with fail
  refine (drawB_any B g K _ hK h).mono ?_
  rintro e w1 ⟨ts, b, m, c, rfl, HN, hm4, HZ, hs1, hg1, ho1⟩
  have G1 := Lib.hid hg1
  have O1 := Lib.hid ho1
  clear hg1 ho1 h
  go_upto_if 9 with (go_at_call 67; refine (one_any B g (K + 40) 24 (by omega) _ (by omega) hs1).mono ?_; rintro e w4 ⟨bo, rfl, hs4, hg4⟩)
  have G4 := Lib.hid (gb_trans G1.out hg4)
  have O4 := Lib.hid (own_src O1.out hg4 hgl)
  have S4 := Lib.hid hs4
  clear hs4 hg4 hs1 G1 O1
  go_cut [3] (fun q wx => ∃ (ts : List TBlower) (b m c : Nat), q = .slice (some ⟨b, 0, none⟩) m c ∧ m ≤ 5 ∧ Hid (ts.length = m) ∧ Hid (smBs ts) ∧ Hid (Src B g (K + 42) wx) ∧ Hid (w.grownBy wx (some g)) ∧ Hid (wx.ownsRow w.heap.size 45 3 (.slice (some ⟨b, 0, none⟩) m c) m (ts.flatMap cBlower)))
  case first =>
    cases bo with
    | false =>
      go_wp2_with fail
      go_meet
      exact ⟨ts, b, m, c, rfl, by omega, HN, HZ, S4.out.more (by omega), G4, O4⟩
    | true =>
      have hmk := HMK.out
      have hz4 := G4.out.size
      have G5 : Hid (w.grownBy (w4.alloc (.cells (madeCells (Value.cells (.agg #[.int .i64 0, .int .i64 0, .int .i64 0])) (5 * 3)) 45)) (some g)) := gb_alloc G4.out _
      have S5 : Hid (Src B g (K + 42) (w4.alloc (.cells (madeCells (Value.cells (.agg #[.int .i64 0, .int .i64 0, .int .i64 0])) (5 * 3)) 45))) := (S4.out.more (by omega)).alloc _
      have O5 : Hid ((w4.alloc (.cells (madeCells (Value.cells (.agg #[.int .i64 0, .int .i64 0, .int .i64 0])) (5 * 3)) 45)).ownsRow w.heap.size 45 3 (.slice (some ⟨w4.heap.size, 0, none⟩) 5 5) 5 ((mk5 0).flatMap cBlower)) := own_lo (made5 w4) hz4
      generalize madeCells (Value.cells (.agg #[.int .i64 0, .int .i64 0, .int .i64 0])) (5 * 3) = Z at hmk G5 S5 O5
      go_wp2_with fail
      have hz5 : w.heap.size ≤ w4.heap.size := hz4
      clear hmk
      go_loopw [4] (fun iv wr => ∃ i : Nat, i ≤ 5 ∧ iv = .int .i64 i ∧ Hid (Src B g (K + 42) wr) ∧ Hid (w.grownBy wr (some g)) ∧ Hid (wr.ownsRow w.heap.size 45 3 (.slice (some ⟨w4.heap.size, 0, none⟩) 5 5) 5 ((mk5 i).flatMap cBlower))) (fun iv _ => 5 - (intOf iv).toNat)
      case atStart => exact ⟨0, by omega, rfl, S5, G5, O5⟩
      case round =>
        obtain ⟨i, hi, rfl, HS, HG, HO⟩ := hrel
        by_cases hlt : i < 5
        · obtain ⟨c0, f0, o0⟩ := blow_set0 HO.out i (by rw [mk5_len]; exact hlt) 5
          rw [mk5_nx hlt] at o0
          have HO2 := Lib.hid o0
          have HS2 := Lib.hid (HS.out.set (q := w4.heap.size) (by omega) (i * 3) (.int .i64 5))
          have HG2 := Lib.hid (gb_set HG.out hz5 (i * 3) (.int .i64 5))
          have hk0 : (0 : Int) ≤ (i : Int) := by omega
          have hk1 : (i : Int) < 5 := by omega
          clear o0
          go_wp2
          go_roundw
          case rel => exact ⟨i + 1, by omega, by go_num, HS2, HG2, HO2⟩
          case measure => simp [intOf]; omega
        · have hi5 : i = 5 := by omega
          subst hi5
          go_wp2_with fail
          go_meet
          exact ⟨mk5 5, w4.heap.size, 5, 5, rfl, by omega, mk5_len 5, mk5_sm, HS, HG, HO⟩
  case rest =>
    obtain ⟨ts, b, m, c, rfl, hm5, HN, HZ, S5, G5, O5⟩ := hcut
    generalize wc = w5 at *
    clear G4 O4 S4 HMK
    have hbw := O5.out.lt b rfl
    by_cases hz : m = 0
    · have HR : Hid (DrawnRs 45 3 cBlower B g (K + 60) 5 wfBs w (.returned (.slice (some ⟨b, 0, none⟩) m c)) w5) := ⟨ts, b, m, c, rfl, HN, by omega, fun t ht => smB_wf (HZ.out t ht), S5.out.more (by omega), G5.out, O5.out⟩
      subst hz
      go_wp2
      go_ret
      exact HR.out
    · have hmp : (0 : Int) < (m : Int) := by omega
      go_wp2_with fail
      refine (pick_any B g _ (m : Int) (by omega) _ (by omega) S5.out).mono ?_
      rintro e w6 ⟨x, rfl, ⟨hy0, hy1, hy2⟩, hs6, hg6⟩
      obtain ⟨kn, rfl⟩ : ∃ kn : Nat, x = kn := ⟨x.toNat, by omega⟩
      have hkm' : kn < m := by omega
      have hka : kn < ts.length := by rw [HN.out]; exact hkm'
      have hka0 : (0 : Int) ≤ (kn : Int) := by omega
      have hka1 : (kn : Int) < (m : Int) := by omega
      have G6 := Lib.hid (gb_trans G5.out hg6)
      have O6 := Lib.hid (own_src O5.out hg6 hgl)
      clear hg6 hy0 hy1 hy2 S5 G5 O5
      go_wp2_with fail
      refine (pick_any B g _ 24 (by omega) _ (by omega) hs6).mono ?_
      rintro e w7 ⟨d, rfl, ⟨hd0, hd1, hd2⟩, hs7, hg7⟩
      have G7 := Lib.hid (gb_trans G6.out hg7)
      have O7 := Lib.hid (own_src O6.out hg7 hgl)
      have hbw7 := O7.out.lt b rfl
      clear hg7 G6 O6 hs6
      have hzk := smB_wf (HZ.out ts[kn] (List.getElem_mem hka))
      have MK : Hid (∀ (W : World) (u : TBlower) (o : Nat) (v : Int), (W.setCell ⟨b, o, none⟩ (.int .i64 v)).ownsRow w.heap.size 45 3 (.slice (some ⟨b, 0, none⟩) m c) m ((ts.set kn u).flatMap cBlower) → wfBlower u → Src B g (K + 60) W → w.grownBy W (some g) → DrawnRs 45 3 cBlower B g (K + 60) 5 wfBs w (.returned (.slice (some ⟨b, 0, none⟩) m c)) (W.setCell ⟨b, o, none⟩ (.int .i64 v))) := fun W u o v ho hu hs hg =>
        ⟨_, b, m, c, rfl, by unfold Hid; rw [List.length_set]; exact HN.out, by omega, blows_wf HZ.out hu, hs.set (by omega) _ _, gb_set hg hbw7.1 _ _, ho⟩
      have HSAME : Hid (DrawnRs 45 3 cBlower B g (K + 60) 5 wfBs w (.returned (.slice (some ⟨b, 0, none⟩) m c)) w7) := ⟨ts, b, m, c, rfl, HN, by omega, fun t ht => smB_wf (HZ.out t ht), hs7.more (by omega), G7.out, O7.out⟩
      have S7 := Lib.hid hs7
      clear hs7
      rcases (by omega : d = 0 ∨ d = 1 ∨ d = 2 ∨ (¬ d = 0 ∧ ¬ d = 1 ∧ ¬ d = 2)) with hd | hd | hd | hd
      · subst hd
        go_wp2_with fail
        refine (among_new B g _ [-1, 0, 1, 1000, 1001, -9223372036854775808] 6 w7 (by omega) S7.out rfl (by omega) (by omega)).mono ?_
        rintro e w8 ⟨v, rfl, hv, hs8, hg8⟩
        have hvw : (Lit.int .i64 v).wf = true := by
          simp at hv
          exact wf_i64 (by omega) (by omega)
        obtain ⟨e1, f8, o8⟩ := blow_set0 (own_src O7.out hg8 hgl) kn hka v
        have HR := Lib.hid (MK.out w8 (v, ts[kn].2) _ v o8 ⟨hvw, hzk.2⟩ (hs8.more (by omega)) (gb_trans G7.out hg8))
        clear hs8 hg8 hv o8
        go_wp2
        go_ret
        exact HR.out
      · subst hd
        go_wp2_with fail
        refine (among_new B g _ [-1, 0, 10000, 10001] 4 w7 (by omega) S7.out rfl (by omega) (by omega)).mono ?_
        rintro e w8 ⟨v, rfl, hv, hs8, hg8⟩
        have hvw : (Lit.int .i64 v).wf = true := by
          simp at hv
          exact wf_i64 (by omega) (by omega)
        obtain ⟨e1, f8, o8⟩ := blow_set1 (own_src O7.out hg8 hgl) kn hka v
        have HR := Lib.hid (MK.out w8 (ts[kn].1, v, ts[kn].2.2) _ v o8 ⟨hzk.1, hvw, hzk.2.2⟩ (hs8.more (by omega)) (gb_trans G7.out hg8))
        clear hs8 hg8 hv o8
        go_wp2
        go_ret
        exact HR.out
      · subst hd
        go_wp2_with fail
        refine (among_new B g _ [-1, 0, 10000, 10001] 4 w7 (by omega) S7.out rfl (by omega) (by omega)).mono ?_
        rintro e w8 ⟨v, rfl, hv, hs8, hg8⟩
        have hvw : (Lit.int .i64 v).wf = true := by
          simp at hv
          exact wf_i64 (by omega) (by omega)
        obtain ⟨e1, f8, o8⟩ := blow_set2 (own_src O7.out hg8 hgl) kn hka v
        have HR := Lib.hid (MK.out w8 (ts[kn].1, ts[kn].2.1, v) _ v o8 ⟨hzk.1, hzk.2.1, hvw⟩ (hs8.more (by omega)) (gb_trans G7.out hg8))
        clear hs8 hg8 hv o8
        go_wp2
        go_ret
        exact HR.out
      · have g0 : (d == 0) = false := by simp; omega
        have g1 : (d == 1) = false := by simp; omega
        have g2 : (d == 2) = false := by simp; omega
        go_wp2
        go_ret
        exact HSAME.out
end Go.Proofs.Ytiilgeoahpnkpaa
