/-
  The walks of the laws' own helpers that write marks into records (Wish) and look for them again.
-/
import Derived.Test.YtdllfkgljnapoaaWishNest
namespace Go.Proofs.Ytdllfkgljnapoaa
open Go.RowKit

theorem cWish_marked {lo hi g n cap : Nat} {ts : List TWish} {q : Int} {j : Nat} {w1 : World} (hn : ts.length = n) (hj : j < ts.length)
    (h : OwN lo hi 39 2 3 cWish (.slice (some ⟨g, 0, none⟩) n cap) ((markN 2 exWish q ts j).set j (marksI (startN 2 q ts j) ts[j].1.length, ts[j].2)) w1) :
    OwN lo hi 39 2 3 cWish (.slice (some ⟨g, 0, none⟩) n cap) (markN 2 exWish q ts (j + 1)) ((w1.setCell ⟨g, j * 3 + 1, none⟩ (.int .i64 (startN 2 q ts j + (ts[j].1.length : Int)))).setCell ⟨g, j * 3 + 2, none⟩ (.int .i64 ((startN 2 q ts j + (ts[j].1.length : Int)) + 1))) := by
  rw [← markN_step _ _ _ _ _ hj]
  have hl : j < (markN 2 exWish q ts j).length := by rw [markN_length]; exact hj
  have h1 := h.store cWish_len (by simp [markN_length, hn]) j (by simpa using hl) 1 (by omega) (.int .i64 (startN 2 q ts j + (ts[j].1.length : Int))) ((startN 2 q ts j + (ts[j].1.length : Int)), ts[j].2.2) (fun v => by rw [set_get _ _ _ hl]; rfl)
  rw [set_get _ _ _ hl, List.set_set] at h1
  have h2 := h1.store cWish_len (by simp [markN_length, hn]) j (by simpa using hl) 2 (by omega) (.int .i64 ((startN 2 q ts j + (ts[j].1.length : Int)) + 1)) ((startN 2 q ts j + (ts[j].1.length : Int)), (startN 2 q ts j + (ts[j].1.length : Int)) + 1) (fun v => by rw [set_get _ _ _ hl]; rfl)
  rw [set_get _ _ _ hl, List.set_set] at h2
  exact h2
set_option maxHeartbeats 2000000 in
theorem markWishS_any (v : Value) (ts : List TWish) (lo hi n : Nat) (q : Int) (w : World) (hn : Hid (ts.length = n)) (hown : OwN lo hi 39 2 3 cWish v ts w) (hl : Hid (∀ i (h : i < ts.length), ts[i].1.length ≤ 1048577)) (hmax : n ≤ 1048577) (h0 : 0 ≤ q) (h1 : q ≤ 1000000000000000) :
    Calls Try.prog 16 #[v, .int .i64 q] w (MarksN 39 2 3 cWish 2 exWish v lo hi ts q w) := by
  obtain ⟨es, he, hrow, _, _⟩ := id hown
  rcases hrow.1.2 with ⟨hv, hz⟩ | ⟨g, cap, cur0, hv, _, _, _, hcm, _, _⟩
  · subst hv
    have HT : Hid (ts = []) := List.eq_nil_of_length_eq_zero hz
    have HR : Hid (MarksN 39 2 3 cWish 2 exWish (.slice none 0 0) lo hi ts q w (.returned (.int .i64 q)) w) := by
      unfold Hid MarksN
      rw [HT.out]
      exact ⟨by rw [List.length_nil, startN_zero], Turned.refl _ _ _, OwN.nil _ _ _⟩
    clear hown hrow he hz hl
    go_enter Try.func16, Try.ntmps16
    go_wp2
    go_loop [1, 5] (fun l i => i = .int .i64 0 ∧ l = .int .i64 q) (fun _ _ => 0)
    case atStart => exact ⟨rfl, rfl⟩
    case round =>
      obtain ⟨rfl, rfl⟩ := hrel
      go_wp2
      go_ret
      exact HR.out
  · subst hv
    have hb := hown.bounds g rfl
    have HGB := Lib.hid hb
    have HOWN := Lib.hid hown
    rw [hn.out]
    unfold maxLen at hcm
    clear hrow he hb hown hcm
    go_enter Try.func16, Try.ntmps16
    go_wp2
    go_loopw [1, 5] (fun l i wr => ∃ j : Nat, j ≤ n ∧ i = .int .i64 j ∧ l = .int .i64 (startN 2 q ts j) ∧ Hid (Turned lo hi w wr) ∧ Hid (OwN lo hi 39 2 3 cWish (.slice (some ⟨g, 0, none⟩) n cap) (markN 2 exWish q ts j) wr)) (fun _ i _ => n - (intOf i).toNat)
    case atStart => exact ⟨0, by omega, rfl, by rw [startN_zero], Turned.refl _ _ _, by rw [markN_zero, ← hn.out]; exact HOWN.out⟩
    case round =>
      obtain ⟨j, hj, rfl, rfl, HTN, HO⟩ := hrel
      by_cases hlt : j < n
      · have hka : j < ts.length := by rw [hn.out]; exact hlt
        obtain ⟨ai, ci, hc, ho, hbd, hnext⟩ := HO.out.mark_at cWish_len hka
        have HN : Hid (∀ w1, wr.grownBy w1 (Value.slice ai ts[j].1.length ci).ownBlock → w1.ownsRow lo 2 1 (.slice ai ts[j].1.length ci) ts[j].1.length ((marksI (startN 2 q ts j) ts[j].1.length).map (Value.int .i64)) → OwN lo hi 39 2 3 cWish (.slice (some ⟨g, 0, none⟩) n cap) ((markN 2 exWish q ts j).set j (marksI (startN 2 q ts j) ts[j].1.length, ts[j].2)) w1 ∧ (∀ (i : Nat) (v : Value), (cWish (.slice ai ts[j].1.length ci) ts[j].2)[i]? = some v → w1.cell? ⟨g, j * 3 + i, none⟩ = some v)) := hnext
        have HM : Hid (∀ w1, OwN lo hi 39 2 3 cWish (.slice (some ⟨g, 0, none⟩) n cap) ((markN 2 exWish q ts j).set j (marksI (startN 2 q ts j) ts[j].1.length, ts[j].2)) w1 → OwN lo hi 39 2 3 cWish (.slice (some ⟨g, 0, none⟩) n cap) (markN 2 exWish q ts (j + 1)) ((w1.setCell ⟨g, j * 3 + 1, none⟩ (.int .i64 (startN 2 q ts j + (ts[j].1.length : Int)))).setCell ⟨g, j * 3 + 2, none⟩ (.int .i64 ((startN 2 q ts j + (ts[j].1.length : Int)) + 1)))) := fun w1 h => cWish_marked hn.out hka h
        have HS := Lib.hid (startN_succ 2 q ts j hka)
        have hbs := startN_le 2 q ts (by omega) (by omega) hl.out j (by omega)
        have hlj := hl.out j hka
        have x0 := hc 0 _ rfl
        simp only [Nat.add_zero] at x0
        generalize hst : startN 2 q ts j = st at hbs HN HM HS
        clear hst hnext hc
        have HO1 := Lib.hid ho
        have HBD := Lib.hid hbd
        clear ho hbd
        generalize ts[j] = t at x0 HO1 HBD HN HM HS hlj
        obtain ⟨t1, t2⟩ := t
        dsimp only at x0 HO1 HBD HN HM HS hlj
        generalize t1.length = r at x0 HO1 HBD HN HM HS hlj
        have hk0 : (0 : Int) ≤ (j : Int) := by omega
        have hk1 : (j : Int) < (n : Int) := by omega
        have hst0 : 0 ≤ st := by omega
        have hst1 : st ≤ 2000000000000000 := by omega
        clear hbs
        go_wp2_with fail
        refine (markInt64S_any ai (t1.map (Value.int .i64)) lo r ci st _ HO1.out hlj hst0 (by omega)).mono ?_
        rintro e w1 ⟨rfl, hg, ho1⟩
        obtain ⟨hq1, hc1⟩ := HN.out w1 hg ho1
        have HT1 := Lib.hid (HTN.out.trans (Turned.grown hg HBD.out))
        have HM1 := Lib.hid (HM.out w1 hq1)
        have HO1 := Lib.hid hq1
        have y1 := hc1 1 _ rfl
        have y2 := hc1 2 _ rfl
        have z1 := HO1.out.frozen (by simp [markN_length, hn.out]) (j * 3 + 1)
        have z2 := HO1.out.frozen (by simp [markN_length, hn.out]) (j * 3 + 2)
        clear hq1 hc1 ho1 hg x0
        go_wp2
        go_roundw
        case rel => exact ⟨j + 1, by omega, by go_num, by rw [HS.out]; first | (congr 2; omega) | exact congrArg (Value.int .i64) (by omega), ((HT1.out.setCell HGB.out _).setCell HGB.out _), HM1.out⟩
        case measure => simp [intOf]; omega
      · have hjn : j = n := by omega
        have HR : Hid (MarksN 39 2 3 cWish 2 exWish (.slice (some ⟨g, 0, none⟩) n cap) lo hi ts q w (.returned (.int .i64 (startN 2 q ts j))) wr) := by
          subst hjn
          unfold Hid MarksN
          rw [hn.out]
          exact ⟨rfl, HTN.out, HO.out⟩
        clear hjn
        go_wp2
        go_ret
        exact HR.out
end Go.Proofs.Ytdllfkgljnapoaa
