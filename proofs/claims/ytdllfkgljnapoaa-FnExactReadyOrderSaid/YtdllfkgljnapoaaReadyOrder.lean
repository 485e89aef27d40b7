/-
  ReadyOrder and DueOrder: the model's walks and the program's.
-/
import Derived.Test.YtdllfkgljnapoaaSortSpec
namespace Go.Proofs.Ytdllfkgljnapoaa
open Go.RowKit
theorem whB_few {l : List Int} {ts : List TWish} (h : whB l ts = true) : ts.length ≤ 6 := by
  unfold whB at h
  simp only [Bool.and_eq_true, decide_eq_true_eq] at h
  exact h.2.1

def ordR (l : List Int) (ts : List TWish) : List Int × Int := if whB l ts = true then (srt (keyOf (ksR ts)) ts.length, 0) else ([], 1)
theorem ordR_bad {l : List Int} {ts : List TWish} (h : whB l ts = false) : ordR l ts = ([], 1) := by unfold ordR; rw [h]; rfl
theorem ordR_good {l : List Int} {ts : List TWish} {n : Nat} (h : whB l ts = true) (hn : ts.length = n) : ordR l ts = (srt (keyOf (ksR ts)) n, 0) := by unfold ordR; rw [if_pos h, hn]
theorem ordR_len (l : List Int) (ts : List TWish) : (ordR l ts).1.length ≤ 1048576 := by
  unfold ordR
  split
  · rename_i h
    have := whB_few h
    rw [srt_len]
    omega
  · simp
theorem ksR_len (ts : List TWish) : (ksR ts).length = ts.length := by simp [ksR]
theorem ksR_at {ts : List TWish} {k : Nat} (h : k < ts.length) : (ksR ts).take (k + 1) = (ksR ts).take k ++ [ts[k].2.1] := by
  rw [List.take_succ_eq_append_getElem (by rw [ksR_len]; exact h)]
  simp [ksR, kfR]

set_option maxHeartbeats 4000000 in
theorem specReadyOrder_any (w : World) {a0 : Option Addr} {n0 c0 : Nat} (l0 : List Int) (hn0 : Hid (l0.length = n0)) (h0 : RI w a0 l0) (hs0 : n0 ≤ 1048576) (_wf0 : Hid (∀ k ∈ l0, (Lit.int .i64 k).wf = true)) {a1 : Option Addr} {n1 c1 : Nat} (ts1 : List TWish) (hn1 : Hid (ts1.length = n1)) (h1 : RN 1048576 3 cWish w a1 ts1) (hs1 : n1 ≤ 1048576) (_wf1 : Hid (∀ t ∈ ts1, wfWish t)) :
    Calls Try.prog 13 #[.slice a0 n0 c0, .slice a1 n1 c1] w (GivesIs 2 (ordR l0 ts1) w) := by
  have OK := l08Ok_any a0 a1 l0 ts1 n0 c0 n1 c1 w hn0 h0 hs0 hn1 h1 hs1
  have HB : Hid (∀ w', Below w.heap.size w w' → RN 1048576 3 cWish w' a1 ts1) := fun w' h => h1.below h
  clear h0 h1
  cases hv : whB l0 ts1 with
  | false =>
    rw [hv] at OK
    have HR := Lib.hid (ordR_bad hv)
    clear hv
    go_enter Try.func13, Try.ntmps13
    go_wp2_with (go_at_call 21; refine OK.mono ?_; rintro e w1 ⟨rfl, rfl⟩)
    go_ret2
    exact givesIs_nil HR.out (Below.refl _ _)
  | true =>
    rw [hv] at OK
    have HR := Lib.hid (ordR_good hv hn1.out)
    have hfew : n1 ≤ 6 := by have := whB_few hv; rw [hn1.out] at this; exact this
    have HI : Hid (∃ i0 : TypeInfo, Try.prog.info? 2 = some i0 ∧ i0.zero = some (.int .i64 0) ∧ i0.size = 1 ∧ i0.bytes = 8) := info_parts infoI64p
    clear hv
    go_enter Try.func13, Try.ntmps13
    go_wp2_with (go_at_call 21; refine OK.mono ?_; rintro e w1 ⟨rfl, rfl⟩)
    clear OK
    go_loopw [6, 7] (fun vo iv wr => ∃ (k cap g : Nat), k ≤ n1 ∧ vo = .slice (some ⟨g, 0, none⟩) k cap ∧ iv = .int .i64 (k : Int) ∧ Hid (Below w.heap.size w wr) ∧ Hid (wr.ownsRow w.heap.size 2 1 (.slice (some ⟨g, 0, none⟩) k cap) k (((ksR ts1).take k).map (Value.int .i64)))) (fun _ iv _ => n1 - (intOf iv).toNat)
    case atStart => exact ⟨0, 0, w.heap.size, by omega, rfl, rfl, (by repeat (first | exact Below.refl _ _ | refine Below.alloc ?_ (by simp; try omega) _ | refine Below.setCell ?_ (by simp; try omega) _)), World.ownsRow_made w #[] 0 (Nat.le_refl _) (by unfold maxLen; omega) rfl⟩
    case round =>
      obtain ⟨k, cap, g, hk, rfl, rfl, HBEL, HO⟩ := hrel
      have hge := own_ge HO.out
      have hws : w.heap.size ≤ wr.heap.size := HBEL.out.size
      by_cases hlt : k < n1
      · have hka : k < ts1.length := by rw [hn1.out]; exact hlt
        have HKS := Lib.hid (ksR_at hka)
        obtain ⟨b, off, ai, ci, rfl, _, _, _, hc⟩ := (HB.out _ HBEL.out).at_ k hka
        have x1 := hc 1 _ rfl
        clear hc
        generalize ts1[k] = t at x1 HKS
        obtain ⟨t1, t2, t3⟩ := t
        dsimp only at x1 HKS
        have hk0 : (0 : Int) ≤ (k : Int) := by omega
        have hk1 : (k : Int) < (n1 : Int) := by omega
        go_wp2_with (at_builtin; refine wpList_append_lies _ rfl _ _ 22 rfl w.heap.size 2 HI.out.choose (.int .i64 0) 1 8 Try.underlying22 HI.out.choose_spec.1 HI.out.choose_spec.2.1 HI.out.choose_spec.2.2.1 HI.out.choose_spec.2.2.2 rfl (by decide) (.slice (some ⟨g, 0, none⟩) k cap) k _ rfl (HO.out.alloc _) ⟨wr.heap.size, 0, none⟩ 1 1 [.int .i64 t2] rfl rfl (World.news_of_block (heap_alloc_new wr _)) (by intro u hu; simp at hu; subst hu; rfl) (by omega) (by unfold maxLen; omega) (by omega) (by simp; omega) _ rfl ?_)
        intro g2 c2 w2 ho2 hgr2 hat2 hlt2
        have B2 : Hid (Below w.heap.size w w2) := (HBEL.out.alloc hws _).grown hgr2 (by simp; omega) (fun p hp => by simp [Value.ownBlock] at hp; omega)
        have O2 : Hid (w2.ownsRow w.heap.size 2 1 (.slice (some ⟨g2, 0, none⟩) (k + 1) c2) (k + 1) (((ksR ts1).take (k + 1)).map (Value.int .i64))) := by
          unfold Hid; rw [HKS.out, List.map_append, List.map_take]; exact ho2
        clear ho2 hgr2 hat2 hlt2 x1
        go_wp2
        go_roundw
        case rel => exact ⟨k + 1, c2, g2, by omega, rfl, by go_num, B2.out, O2.out⟩
        case measure => simp [intOf]; omega
      · have hkn : k = n1 := by omega
        subst hkn
        have HO2 := HO.out
        rw [List.take_of_length_le (by rw [ksR_len, hn1.out]; exact Nat.le_refl _)] at HO2
        have hlen : Hid ((ksR ts1).length = k) := by unfold Hid; rw [ksR_len, hn1.out]
        have SO := sorted_any (some ⟨g, 0, none⟩) (ksR ts1) k cap wr hlen hfew (own_RI hlen HO2)
        clear HO2 HO
        go_wp2_with (go_at_call 27; refine SO.mono ?_; rintro e w2 ⟨g2, c2, rfl, hb2, ho2⟩)
        go_ret2
        exact givesIs_of HR.out (two_worlds HBEL.out hb2) (srt_len _ _) (own_lo ho2 hws)

set_option maxHeartbeats 2000000 in
theorem implReadyOrder_any (w : World) {a0 : Option Addr} {n0 c0 : Nat} (l0 : List Int) (hn0 : Hid (l0.length = n0)) (h0 : RI w a0 l0) (hs0 : n0 ≤ 1048576) (_wf0 : Hid (∀ k ∈ l0, (Lit.int .i64 k).wf = true)) {a1 : Option Addr} {n1 c1 : Nat} (ts1 : List TWish) (hn1 : Hid (ts1.length = n1)) (h1 : RN 1048576 3 cWish w a1 ts1) (hs1 : n1 ≤ 1048576) (_wf1 : Hid (∀ t ∈ ts1, wfWish t)) :
    Calls Try.prog 14 #[.slice a0 n0 c0, .slice a1 n1 c1] w (GivesIs 2 (ordR l0 ts1) w) := by
  have CK := checkWishes_any a0 a1 l0 ts1 n0 c0 n1 c1 w hn0 h0 hs0 hn1 h1 hs1
  have HB : Hid (∀ w', Below w.heap.size w w' → RN 1048576 3 cWish w' a1 ts1) := fun w' h => h1.below h
  clear h0 h1
  cases hv : whB l0 ts1 with
  | false =>
    have HC : wcode l0 ts1 = 1 := by unfold wcode; rw [hv]; rfl
    rw [HC] at CK
    have HR := Lib.hid (ordR_bad hv)
    clear hv HC
    go_enter Try.func14, Try.ntmps14
    go_wp2_with (go_at_call 28; refine CK.mono ?_; rintro e w1 ⟨rfl, hb1⟩)
    go_ret2
    exact givesIs_nil HR.out hb1
  | true =>
    have HC : wcode l0 ts1 = 0 := by unfold wcode; rw [hv]; rfl
    rw [HC] at CK
    have HR := Lib.hid (ordR_good hv hn1.out)
    have hfew : n1 ≤ 6 := by have := whB_few hv; rw [hn1.out] at this; exact this
    have OB : Hid (∀ W, Below w.heap.size w W → Calls Try.prog 29 #[.slice a1 n1 c1, .func (.func 30) #[] #[]] W (GivesO 2 (srt (keyOf (ksR ts1)) n1) n1 W)) := fun W h => orderByR_any a1 ts1 n1 c1 W hn1 hfew (HB.out W h)
    clear hv HC
    go_enter Try.func14, Try.ntmps14
    go_wp2_with (first | (go_at_call 28; refine CK.mono ?_; rintro e w1 ⟨rfl, hb1⟩) | (go_at_call 29; refine (OB.out _ hb1).mono ?_; rintro e w2 ⟨g2, c2, rfl, hb2, ho2⟩))
    go_ret2
    exact givesIs_of HR.out (two_worlds hb1 hb2) (srt_len _ _) (own_lo ho2 hb1.size)

def ordD (l : List Int) (ts : List TWish) : List Int × Int := if whB l ts = true then (srt (keyOf (ksD ts)) ts.length, 0) else ([], 1)
theorem ordD_bad {l : List Int} {ts : List TWish} (h : whB l ts = false) : ordD l ts = ([], 1) := by unfold ordD; rw [h]; rfl
theorem ordD_good {l : List Int} {ts : List TWish} {n : Nat} (h : whB l ts = true) (hn : ts.length = n) : ordD l ts = (srt (keyOf (ksD ts)) n, 0) := by unfold ordD; rw [if_pos h, hn]
theorem ordD_len (l : List Int) (ts : List TWish) : (ordD l ts).1.length ≤ 1048576 := by
  unfold ordD
  split
  · rename_i h
    have := whB_few h
    rw [srt_len]
    omega
  · simp
theorem ksD_len (ts : List TWish) : (ksD ts).length = ts.length := by simp [ksD]
theorem ksD_at {ts : List TWish} {k : Nat} (h : k < ts.length) : (ksD ts).take (k + 1) = (ksD ts).take k ++ [ts[k].2.2] := by
  rw [List.take_succ_eq_append_getElem (by rw [ksD_len]; exact h)]
  simp [ksD, kfD]

set_option maxHeartbeats 4000000 in
theorem specDueOrder_any (w : World) {a0 : Option Addr} {n0 c0 : Nat} (l0 : List Int) (hn0 : Hid (l0.length = n0)) (h0 : RI w a0 l0) (hs0 : n0 ≤ 1048576) (_wf0 : Hid (∀ k ∈ l0, (Lit.int .i64 k).wf = true)) {a1 : Option Addr} {n1 c1 : Nat} (ts1 : List TWish) (hn1 : Hid (ts1.length = n1)) (h1 : RN 1048576 3 cWish w a1 ts1) (hs1 : n1 ≤ 1048576) (_wf1 : Hid (∀ t ∈ ts1, wfWish t)) :
    Calls Try.prog 18 #[.slice a0 n0 c0, .slice a1 n1 c1] w (GivesIs 2 (ordD l0 ts1) w) := by
  have OK := l08Ok_any a0 a1 l0 ts1 n0 c0 n1 c1 w hn0 h0 hs0 hn1 h1 hs1
  have HB : Hid (∀ w', Below w.heap.size w w' → RN 1048576 3 cWish w' a1 ts1) := fun w' h => h1.below h
  clear h0 h1
  cases hv : whB l0 ts1 with
  | false =>
    rw [hv] at OK
    have HR := Lib.hid (ordD_bad hv)
    clear hv
    go_enter Try.func18, Try.ntmps18
    go_wp2_with (go_at_call 21; refine OK.mono ?_; rintro e w1 ⟨rfl, rfl⟩)
    go_ret2
    exact givesIs_nil HR.out (Below.refl _ _)
  | true =>
    rw [hv] at OK
    have HR := Lib.hid (ordD_good hv hn1.out)
    have hfew : n1 ≤ 6 := by have := whB_few hv; rw [hn1.out] at this; exact this
    have HI : Hid (∃ i0 : TypeInfo, Try.prog.info? 2 = some i0 ∧ i0.zero = some (.int .i64 0) ∧ i0.size = 1 ∧ i0.bytes = 8) := info_parts infoI64p
    clear hv
    go_enter Try.func18, Try.ntmps18
    go_wp2_with (go_at_call 21; refine OK.mono ?_; rintro e w1 ⟨rfl, rfl⟩)
    clear OK
    go_loopw [6, 7] (fun vo iv wr => ∃ (k cap g : Nat), k ≤ n1 ∧ vo = .slice (some ⟨g, 0, none⟩) k cap ∧ iv = .int .i64 (k : Int) ∧ Hid (Below w.heap.size w wr) ∧ Hid (wr.ownsRow w.heap.size 2 1 (.slice (some ⟨g, 0, none⟩) k cap) k (((ksD ts1).take k).map (Value.int .i64)))) (fun _ iv _ => n1 - (intOf iv).toNat)
    case atStart => exact ⟨0, 0, w.heap.size, by omega, rfl, rfl, (by repeat (first | exact Below.refl _ _ | refine Below.alloc ?_ (by simp; try omega) _ | refine Below.setCell ?_ (by simp; try omega) _)), World.ownsRow_made w #[] 0 (Nat.le_refl _) (by unfold maxLen; omega) rfl⟩
    case round =>
      obtain ⟨k, cap, g, hk, rfl, rfl, HBEL, HO⟩ := hrel
      have hge := own_ge HO.out
      have hws : w.heap.size ≤ wr.heap.size := HBEL.out.size
      by_cases hlt : k < n1
      · have hka : k < ts1.length := by rw [hn1.out]; exact hlt
        have HKS := Lib.hid (ksD_at hka)
        obtain ⟨b, off, ai, ci, rfl, _, _, _, hc⟩ := (HB.out _ HBEL.out).at_ k hka
        have x1 := hc 2 _ rfl
        clear hc
        generalize ts1[k] = t at x1 HKS
        obtain ⟨t1, t2, t3⟩ := t
        dsimp only at x1 HKS
        have hk0 : (0 : Int) ≤ (k : Int) := by omega
        have hk1 : (k : Int) < (n1 : Int) := by omega
        go_wp2_with (at_builtin; refine wpList_append_lies _ rfl _ _ 22 rfl w.heap.size 2 HI.out.choose (.int .i64 0) 1 8 Try.underlying22 HI.out.choose_spec.1 HI.out.choose_spec.2.1 HI.out.choose_spec.2.2.1 HI.out.choose_spec.2.2.2 rfl (by decide) (.slice (some ⟨g, 0, none⟩) k cap) k _ rfl (HO.out.alloc _) ⟨wr.heap.size, 0, none⟩ 1 1 [.int .i64 t3] rfl rfl (World.news_of_block (heap_alloc_new wr _)) (by intro u hu; simp at hu; subst hu; rfl) (by omega) (by unfold maxLen; omega) (by omega) (by simp; omega) _ rfl ?_)
        intro g2 c2 w2 ho2 hgr2 hat2 hlt2
        have B2 : Hid (Below w.heap.size w w2) := (HBEL.out.alloc hws _).grown hgr2 (by simp; omega) (fun p hp => by simp [Value.ownBlock] at hp; omega)
        have O2 : Hid (w2.ownsRow w.heap.size 2 1 (.slice (some ⟨g2, 0, none⟩) (k + 1) c2) (k + 1) (((ksD ts1).take (k + 1)).map (Value.int .i64))) := by
          unfold Hid; rw [HKS.out, List.map_append, List.map_take]; exact ho2
        clear ho2 hgr2 hat2 hlt2 x1
        go_wp2
        go_roundw
        case rel => exact ⟨k + 1, c2, g2, by omega, rfl, by go_num, B2.out, O2.out⟩
        case measure => simp [intOf]; omega
      · have hkn : k = n1 := by omega
        subst hkn
        have HO2 := HO.out
        rw [List.take_of_length_le (by rw [ksD_len, hn1.out]; exact Nat.le_refl _)] at HO2
        have hlen : Hid ((ksD ts1).length = k) := by unfold Hid; rw [ksD_len, hn1.out]
        have SO := sorted_any (some ⟨g, 0, none⟩) (ksD ts1) k cap wr hlen hfew (own_RI hlen HO2)
        clear HO2 HO
        go_wp2_with (go_at_call 27; refine SO.mono ?_; rintro e w2 ⟨g2, c2, rfl, hb2, ho2⟩)
        go_ret2
        exact givesIs_of HR.out (two_worlds HBEL.out hb2) (srt_len _ _) (own_lo ho2 hws)

set_option maxHeartbeats 2000000 in
theorem implDueOrder_any (w : World) {a0 : Option Addr} {n0 c0 : Nat} (l0 : List Int) (hn0 : Hid (l0.length = n0)) (h0 : RI w a0 l0) (hs0 : n0 ≤ 1048576) (_wf0 : Hid (∀ k ∈ l0, (Lit.int .i64 k).wf = true)) {a1 : Option Addr} {n1 c1 : Nat} (ts1 : List TWish) (hn1 : Hid (ts1.length = n1)) (h1 : RN 1048576 3 cWish w a1 ts1) (hs1 : n1 ≤ 1048576) (_wf1 : Hid (∀ t ∈ ts1, wfWish t)) :
    Calls Try.prog 19 #[.slice a0 n0 c0, .slice a1 n1 c1] w (GivesIs 2 (ordD l0 ts1) w) := by
  have CK := checkWishes_any a0 a1 l0 ts1 n0 c0 n1 c1 w hn0 h0 hs0 hn1 h1 hs1
  have HB : Hid (∀ w', Below w.heap.size w w' → RN 1048576 3 cWish w' a1 ts1) := fun w' h => h1.below h
  clear h0 h1
  cases hv : whB l0 ts1 with
  | false =>
    have HC : wcode l0 ts1 = 1 := by unfold wcode; rw [hv]; rfl
    rw [HC] at CK
    have HR := Lib.hid (ordD_bad hv)
    clear hv HC
    go_enter Try.func19, Try.ntmps19
    go_wp2_with (go_at_call 28; refine CK.mono ?_; rintro e w1 ⟨rfl, hb1⟩)
    go_ret2
    exact givesIs_nil HR.out hb1
  | true =>
    have HC : wcode l0 ts1 = 0 := by unfold wcode; rw [hv]; rfl
    rw [HC] at CK
    have HR := Lib.hid (ordD_good hv hn1.out)
    have hfew : n1 ≤ 6 := by have := whB_few hv; rw [hn1.out] at this; exact this
    have OB : Hid (∀ W, Below w.heap.size w W → Calls Try.prog 29 #[.slice a1 n1 c1, .func (.func 31) #[] #[]] W (GivesO 2 (srt (keyOf (ksD ts1)) n1) n1 W)) := fun W h => orderByD_any a1 ts1 n1 c1 W hn1 hfew (HB.out W h)
    clear hv HC
    go_enter Try.func19, Try.ntmps19
    go_wp2_with (first | (go_at_call 28; refine CK.mono ?_; rintro e w1 ⟨rfl, hb1⟩) | (go_at_call 29; refine (OB.out _ hb1).mono ?_; rintro e w2 ⟨g2, c2, rfl, hb2, ho2⟩))
    go_ret2
    exact givesIs_of HR.out (two_worlds hb1 hb2) (srt_len _ _) (own_lo ho2 hb1.size)
end Go.Proofs.Ytdllfkgljnapoaa
