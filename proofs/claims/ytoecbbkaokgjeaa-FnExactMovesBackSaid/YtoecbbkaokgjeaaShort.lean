/-
  What stations want; ShortStations, the model's walk and the program's.
-/
import Derived.Test.YtoecbbkaokgjeaaSendC
import Derived.Test.YtoecbbkaokgjeaaMarksI
import Derived.Lib.MinMax
namespace Go.Proofs.Ytoecbbkaokgjeaa
open Go.RowKit

def wtB (n : Nat) (ws : List Int) : Bool := decide (ws.length = n) && ws.all (fun t => inB t 0 200)
def wcode (l ws : List Int) : Int := if stB l = true then (if wtB l.length ws = true then 0 else 2) else 1
theorem wtB_len {n : Nat} {ws : List Int} (h : wtB n ws = true) : ws.length = n := by
  unfold wtB at h
  rw [Bool.and_eq_true] at h
  exact of_decide_eq_true h.1
theorem wtB_at {n : Nat} {ws : List Int} (h : wtB n ws = true) (i : Nat) (hi : i < ws.length) : 0 ≤ ws[i] ∧ ws[i] ≤ 200 := by
  unfold wtB at h
  rw [Bool.and_eq_true] at h
  exact inB_of (all_at (f := fun t => inB t 0 200) h.2 i hi)
theorem wcode_ok {l ws : List Int} {n m : Nat} (hn : l.length = n) (hm : ws.length = m) (h : wcode l ws = 0) : stB l = true ∧ wtB n ws = true ∧ m = n := by
  unfold wcode at h
  by_cases h1 : stB l = true
  · rw [if_pos h1] at h
    by_cases h2 : wtB l.length ws = true
    · rw [hn] at h2
      exact ⟨h1, h2, by rw [← hm]; exact wtB_len h2⟩
    · rw [if_neg h2] at h; exact absurd h (by decide)
  · rw [if_neg h1] at h; exact absurd h (by decide)
theorem ne_castW {a b : Nat} (h : ¬ a = b) : ((a : Int) != (b : Int)) = true := by rw [bne_iff_ne]; omega

theorem l07Code_any (a b : Option Addr) (l ws : List Int) (n ca m cb : Nat) (w : World) (hn : Hid (l.length = n)) (ha : RI w a l) (hmax : n ≤ 1048576) (hm : Hid (ws.length = m)) (hb : RI w b ws) (hmaxm : m ≤ 1048576) :
    Calls Try.prog 51 #[.slice a n ca, .slice b m cb] w fun e w' => e = .returned (.int .i64 (wcode l ws)) ∧ w = w' := by
  have OK := l07Ok_any a l n ca w hn ha hmax
  have HW := Lib.hid hb
  clear ha hb
  cases hv : stB l with
  | false =>
    have HR : Hid (wcode l ws = 1) := by unfold Hid wcode; rw [hv]; rfl
    rw [hv] at OK
    clear hv
    go_enter Try.func51, Try.ntmps51
    go_wp2_with (go_at_call 37; refine OK.mono ?_; rintro e w' ⟨rfl, rfl⟩)
    go_ret
    exact ⟨ret_int HR.out.symm, rfl⟩
  | true =>
    have HC : Hid (wcode l ws = if wtB n ws = true then 0 else 2) := by unfold Hid wcode; rw [if_pos hv, hn.out]
    rw [hv] at OK
    clear hv
    go_enter Try.func51, Try.ntmps51
    go_wp2_with (go_at_call 37; refine OK.mono ?_; rintro e w' ⟨rfl, rfl⟩)
    go_loop [5] (fun i => ∃ k : Nat, k ≤ m ∧ i = .int .i64 k ∧ Hid (∀ j (h : j < ws.length), j < k → inB ws[j] 0 200 = true)) (fun i => m - (intOf i).toNat)
    case atStart => exact ⟨0, by omega, rfl, fun j _ hj => by omega⟩
    case round =>
      obtain ⟨k, hk, rfl, HALL⟩ := hrel
      by_cases hlt : k < m
      · have hka : k < ws.length := by rw [hm.out]; exact hlt
        have HBAD : Hid (inB ws[k] 0 200 = false → wcode l ws = 2) := fun h => by rw [HC.out, if_neg]; unfold wtB; rw [all_no (f := fun t => inB t 0 200) k hka h]; simp
        have HOK : Hid (inB ws[k] 0 200 = true → ∀ j (h : j < ws.length), j < k + 1 → inB ws[j] 0 200 = true) := fun ht j h hj => if e : j = k then (by subst e; exact ht) else HALL.out j h (by omega)
        obtain ⟨b, off, rfl, _, x1⟩ := HW.out.at_ k hka
        generalize ws[k] = t at x1 HBAD HOK
        have hk0 : (0 : Int) ≤ (k : Int) := by omega
        have hk1 : (k : Int) < (m : Int) := by omega
        cases ht : inB t 0 200 with
        | true =>
          have HOK2 := Lib.hid (HOK.out ht)
          clear HOK HBAD
          go_wp2_with (go_at_call 59; refine (l00In_any _ _ _ _).mono ?_; rintro e w' ⟨rfl, rfl⟩)
          go_round
          case rel => exact ⟨k + 1, by omega, by go_num, HOK2⟩
          case measure => simp [intOf]; omega
        | false =>
          have HR := Lib.hid (HBAD.out ht)
          clear HOK HBAD
          go_wp2_with (go_at_call 59; refine (l00In_any _ _ _ _).mono ?_; rintro e w' ⟨rfl, rfl⟩)
          go_ret
          exact ⟨ret_int HR.out.symm, rfl⟩
      · have HAL : Hid (ws.all (fun t => inB t 0 200) = true) := all_yes (fun j hj => HALL.out j hj (by rw [hm.out] at hj; omega))
        by_cases hmn : m = n
        · have HR : Hid (wcode l ws = 0) := by unfold Hid; rw [HC.out, if_pos (by unfold wtB; rw [HAL.out, hm.out, decide_eq_true hmn]; rfl)]
          subst hmn
          go_wp2
          go_ret
          exact ⟨ret_int HR.out.symm, rfl⟩
        · have HR : Hid (wcode l ws = 2) := by unfold Hid; rw [HC.out, if_neg (by unfold wtB; rw [hm.out, decide_eq_false hmn]; simp)]
          have hne := ne_castW hmn
          go_wp2
          go_ret
          exact ⟨ret_int HR.out.symm, rfl⟩

theorem checkWants_any (a b : Option Addr) (l ws : List Int) (n ca m cb : Nat) (w : World) (hn : Hid (l.length = n)) (ha : RI w a l) (hmax : n ≤ 1048576) (hm : Hid (ws.length = m)) (hb : RI w b ws) (hmaxm : m ≤ 1048576) :
    Calls Try.prog 53 #[.slice a n ca, .slice b m cb] w fun e w' => e = .returned (.int .i64 (wcode l ws)) ∧ w = w' := by
  have CS := checkStock_any a l n ca w hn ha hmax
  have AW := areWithin_any b ws m cb 200 w hm hb hmaxm
  clear ha hb
  cases hv : stB l with
  | false =>
    have HR : Hid (wcode l ws = 1) := by unfold Hid wcode; rw [hv]; rfl
    have hc : stcode l = 1 := by unfold stcode; rw [hv]; rfl
    rw [hc] at CS
    clear hv hc AW
    go_enter Try.func53, Try.ntmps53
    go_wp2_with (first | (go_at_call 47; refine CS.mono ?_; rintro e w' ⟨rfl, rfl⟩))
    go_ret
    exact ⟨ret_int HR.out.symm, rfl⟩
  | true =>
    have HC : Hid (wcode l ws = if wtB n ws = true then 0 else 2) := by unfold Hid wcode; rw [if_pos hv, hn.out]
    have hc : stcode l = 0 := by unfold stcode; rw [hv]; rfl
    rw [hc] at CS
    clear hv hc
    by_cases hmn : m = n
    · cases hw : ws.all (fun t => inB t 0 200) with
      | false =>
        have HR : Hid (wcode l ws = 2) := by unfold Hid; rw [HC.out, if_neg (by unfold wtB; rw [hw]; simp)]
        rw [hw] at AW
        subst hmn
        go_enter Try.func53, Try.ntmps53
        go_wp2_with (first | (go_at_call 47; refine CS.mono ?_; rintro e w' ⟨rfl, rfl⟩) | (go_at_call 39; refine AW.mono ?_; rintro e w' ⟨rfl, rfl⟩))
        go_ret
        exact ⟨ret_int HR.out.symm, rfl⟩
      | true =>
        have HR : Hid (wcode l ws = 0) := by unfold Hid; rw [HC.out, if_pos (by unfold wtB; rw [hw, hm.out, decide_eq_true hmn]; rfl)]
        rw [hw] at AW
        subst hmn
        go_enter Try.func53, Try.ntmps53
        go_wp2_with (first | (go_at_call 47; refine CS.mono ?_; rintro e w' ⟨rfl, rfl⟩) | (go_at_call 39; refine AW.mono ?_; rintro e w' ⟨rfl, rfl⟩))
        go_ret
        exact ⟨ret_int HR.out.symm, rfl⟩
    · have HR : Hid (wcode l ws = 2) := by unfold Hid; rw [HC.out, if_neg (by unfold wtB; rw [hm.out, decide_eq_false hmn]; simp)]
      have hne := ne_castW hmn
      clear AW
      go_enter Try.func53, Try.ntmps53
      go_wp2_with (first | (go_at_call 47; refine CS.mono ?_; rintro e w' ⟨rfl, rfl⟩))
      go_ret
      exact ⟨ret_int HR.out.symm, rfl⟩

/-- By how many carriers a station is short. -/
def missI (l ws : List Int) (i : Nat) : Int := max 0 (ws.getD i 0 - l.getD i 0)
def missL (l ws : List Int) (k : Nat) : List Int := (List.range k).map (missI l ws)
theorem missL_len (l ws : List Int) (k : Nat) : (missL l ws k).length = k := by simp [missL]
theorem missL_get (l ws : List Int) (k i : Nat) (h : i < (missL l ws k).length) : (missL l ws k)[i] = missI l ws i := by simp [missL]
theorem missL_succ (l ws : List Int) (k : Nat) : missL l ws (k + 1) = missL l ws k ++ [missI l ws k] := by simp [missL, List.range_succ]
theorem missI_at {l ws : List Int} {i : Nat} (h1 : i < l.length) (h2 : i < ws.length) : missI l ws i = max 0 (ws[i] - l[i]) := by unfold missI; rw [getD_at h1, getD_at h2]
def balL (l ws : List Int) (k : Nat) : List Int := (List.range k).map fun i => l.getD i 0 - ws.getD i 0
theorem balL_len (l ws : List Int) (k : Nat) : (balL l ws k).length = k := by simp [balL]
theorem balL_get (l ws : List Int) (k i : Nat) (h : i < (balL l ws k).length) : (balL l ws k)[i] = l.getD i 0 - ws.getD i 0 := by simp [balL]
def shortOf (l ws : List Int) : List Int × Int := if wcode l ws = 0 then (missL l ws l.length, 0) else ([], wcode l ws)
theorem shortOf_bad {l ws : List Int} {c : Int} (hc : wcode l ws = c) (h : ¬ c = 0) : shortOf l ws = ([], c) := by subst hc; unfold shortOf; rw [if_neg h]
theorem shortOf_good {l ws : List Int} {n : Nat} (hn : l.length = n) (h : wcode l ws = 0) : shortOf l ws = (missL l ws n, 0) := by unfold shortOf; rw [if_pos h, hn]
theorem shortOf_len (l ws : List Int) (h : l.length ≤ 1048576) : (shortOf l ws).1.length ≤ 1048576 := by
  unfold shortOf
  split
  · dsimp only; rw [missL_len]; exact h
  · simp

theorem l00Max_any (x y : Int) (w : World) : Calls Try.prog 52 #[.int .i64 x, .int .i64 y] w fun e w' => e = .returned (.int .i64 (max x y)) ∧ w = w' := by
  by_cases h : y < x
  · have HR : Hid (max x y = x) := by unfold Hid; omega
    go_enter Try.func52, Try.ntmps52
    go_wp2
    go_ret
    exact ⟨ret_int HR.out.symm, rfl⟩
  · have HR : Hid (max x y = y) := by unfold Hid; omega
    go_enter Try.func52, Try.ntmps52
    go_wp2
    go_ret
    exact ⟨ret_int HR.out.symm, rfl⟩
theorem news_oneW (w : World) (z : Value) (e : TypeId) : ∀ j u, [z][j]? = some u → (w.alloc (.cells #[z] e)).cell? ((⟨w.heap.size, 0, none⟩ : Addr).add j) = some u := by
  rintro (_ | j) u h
  · simp at h; subst h; simp [go_sem]
  · simp at h

set_option maxHeartbeats 4000000 in
theorem specShortStations_any (w : World) {a0 : Option Addr} {n0 c0 : Nat} (l0 : List Int) (hn0 : Hid (l0.length = n0)) (h0 : RI w a0 l0) (hs0 : n0 ≤ 1048576) (_wf0 : Hid (∀ k ∈ l0, (Lit.int .i64 k).wf = true)) {a1 : Option Addr} {n1 c1 : Nat} (l1 : List Int) (hn1 : Hid (l1.length = n1)) (h1 : RI w a1 l1) (hs1 : n1 ≤ 1048576) (_wf1 : Hid (∀ k ∈ l1, (Lit.int .i64 k).wf = true)) :
    Calls Try.prog 27 #[.slice a0 n0 c0, .slice a1 n1 c1] w (GivesIs 2 (shortOf l0 l1) w) := by
  have HA : Hid (∀ w', Below w.heap.size w w' → RI w' a0 l0) := fun w' h => h0.below h
  have HB : Hid (∀ w', Below w.heap.size w w' → RI w' a1 l1) := fun w' h => h1.below h
  have HI : Hid (∃ i0 : TypeInfo, Try.prog.info? 2 = some i0 ∧ i0.zero = some (.int .i64 0) ∧ i0.size = 1 ∧ i0.bytes = 8) := info_parts info2
  have CO := l07Code_any a0 a1 l0 l1 n0 c0 n1 c1 w hn0 h0 hs0 hn1 h1 hs1
  clear h0 h1
  obtain ⟨c, hc⟩ : ∃ c, wcode l0 l1 = c := ⟨_, rfl⟩
  rw [hc] at CO
  rcases eq_ways c 0 with ⟨⟨e1, e2⟩, e3⟩ | ⟨⟨e1, e2⟩, e3⟩
  · subst e3
    obtain ⟨hst, hwt, hmn⟩ := wcode_ok hn0.out hn1.out hc
    have HR := Lib.hid (shortOf_good hn0.out hc)
    have HST := Lib.hid hst
    have HWT := Lib.hid hwt
    have hn10 : n0 ≤ 10 := by have := (stB_len hst).2; rw [hn0.out] at this; exact this
    subst hmn
    clear e1 e2 hst hwt hc
    go_enter Try.func27, Try.ntmps27
    go_wp2_with (go_at_call 51; refine CO.mono ?_; rintro e w' ⟨rfl, rfl⟩)
    go_loopw [7, 8] (fun vo iv wr => ∃ (k cap : Nat) (ao : Option Addr), k ≤ n1 ∧ vo = .slice ao k cap ∧ iv = .int .i64 (k : Int) ∧ Hid (Below w.heap.size w wr) ∧ Hid (wr.ownsRow w.heap.size 2 1 (.slice ao k cap) k ((missL l0 l1 k).map (Value.int .i64)))) (fun _ iv _ => n1 - (intOf iv).toNat)
    case atStart => exact ⟨0, 0, _, by omega, rfl, rfl, (by repeat (first | exact Below.refl _ _ | refine Below.alloc ?_ (by simp; try omega) _ | refine Below.setCell ?_ (by simp; try omega) _)), World.ownsRow_made w #[] 0 (Nat.le_refl _) (by unfold maxLen; omega) rfl⟩
    case round =>
      obtain ⟨k, cap, ao, hk, rfl, rfl, HBEL, HOWN⟩ := hrel
      by_cases hlt : k < n1
      · have hka : k < l0.length := by rw [hn0.out]; exact hlt
        have hkb : k < l1.length := by rw [hn1.out]; exact hlt
        have hat := stB_at HST.out k hka
        have hbt := wtB_at HWT.out k hkb
        have HMI := Lib.hid (missL_succ l0 l1 k)
        have hmi := missI_at hka hkb
        obtain ⟨b, off, rfl, hbl0, xw⟩ := (HA.out _ (Below.refl _ _)).at_ k hka
        obtain ⟨b2, off2, rfl, hbl3, yw⟩ := (HB.out _ (Below.refl _ _)).at_ k hkb
        have x1 := (HBEL.out.cell (p := ⟨b, off + k, none⟩) hbl0).trans xw
        have y1 := (HBEL.out.cell (p := ⟨b2, off2 + k, none⟩) hbl3).trans yw
        have XW := Lib.hid xw
        have YW := Lib.hid yw
        have hbl : b < wr.heap.size := by have := HBEL.out.size; omega
        have hbl2 : b2 < wr.heap.size := by have := HBEL.out.size; omega
        clear xw yw
        rw [hmi] at HMI
        clear hmi
        generalize l0[k] = t at x1 XW HMI hat
        generalize l1[k] = u at y1 YW HMI hbt
        have hk0 : (0 : Int) ≤ (k : Int) := by omega
        have hk1 : (k : Int) < (n1 : Int) := by omega
        have hws := HBEL.out.size
        have hw1 : IntKind.i64.wrap (u - t) = u - t := IntWalk.i64_in _ (by omega)
        generalize hmx : max 0 (u - t) = mx at HMI
        have MX := fun W => l00Max_any 0 (u - t) W
        rw [hmx] at MX
        clear hmx
        have HGE : Hid (∀ q, (Value.slice ao k cap).ownBlock = some q → w.heap.size ≤ q) := fun q hq => (HOWN.out.lt q hq).1
        have HAPP : Hid (∀ (g2 cap2 : Nat) (w5 : World), w5.ownsRow w.heap.size 2 1 (.slice (some ⟨g2, 0, none⟩) (k + 1) cap2) (k + 1) ((missL l0 l1 k).map (Value.int .i64) ++ [.int .i64 mx]) → (wr.drew.alloc (.cells #[.int .i64 mx] 2)).grownBy w5 (Value.slice ao k cap).ownBlock →
            w5.ownsRow w.heap.size 2 1 (.slice (some ⟨g2, 0, none⟩) (k + 1) cap2) (k + 1) ((missL l0 l1 (k + 1)).map (Value.int .i64)) ∧ Below w.heap.size w w5) := fun g2 cap2 w5 ho hg => by
          refine ⟨by rw [HMI.out, List.map_append]; exact ho, ?_⟩
          exact (HBEL.out.drew.alloc hws _).grown hg (by simp; omega) HGE.out
        have HOX : Hid ((wr.drew.alloc (.cells #[.int .i64 mx] 2)).ownsRow w.heap.size 2 1 (.slice ao k cap) k ((missL l0 l1 k).map (Value.int .i64))) := World.ownsRow.alloc (w := wr.drew) HOWN.out _
        go_wp2_with fail
        go_region_held3 (fun w' => w'.cell? ⟨b, off + k, none⟩ = some (.int .i64 t) ∧ w'.cell? ⟨b2, off2 + k, none⟩ = some (.int .i64 u))
          (first | exact ⟨x1, y1⟩ | exact ⟨(((Below.refl _ _).drew.alloc (by simp) _).cell (p := ⟨_, _, none⟩) hbl).trans x1, (((Below.refl _ _).drew.alloc (by simp) _).cell (p := ⟨_, _, none⟩) hbl2).trans y1⟩ | exact ⟨(hB5.cell (p := ⟨_, _, none⟩) hbl0).trans XW.out, (hB5.cell (p := ⟨_, _, none⟩) hbl3).trans YW.out⟩)
          (first | (go_at_call 52; refine (MX _).mono ?_; rintro e w' ⟨rfl, rfl⟩) | ((with_reducible_and_instances show (if Region.wanted { dst := some 34, op := _, type := _, pos := _, after := _, guard := none } _ = true then _ else _)); refine step_append_lies _ (by rfl) _ _ 22 (by rfl) w.heap.size 2 HI.out.choose (.int .i64 0) 1 8 Try.underlying22 HI.out.choose_spec.1 HI.out.choose_spec.2.1 HI.out.choose_spec.2.2.1 HI.out.choose_spec.2.2.2 rfl (by decide) (.slice ao k cap) k ((missL l0 l1 k).map (Value.int .i64)) (by rfl) HOX.out ⟨wr.heap.size, 0, none⟩ 1 1 [.int .i64 mx] (by rfl) rfl (news_oneW wr.drew _ _) (by intro u hu; simp at hu; subst hu; rfl) (by decide) (by unfold maxLen; omega) (by omega) (by simp; omega) _ rfl ?_; intro g2 cap2 w5 hown1 hgrow hat hlt5; obtain ⟨hN, hB5⟩ := HAPP.out g2 cap2 w5 hown1 hgrow))
        all_goals
          have HN5 := Lib.hid hN
          have HB5 := Lib.hid hB5
          clear hN hB5 hown1 hgrow hat hlt5 x1 y1
          go_wp2
          go_roundw
          case rel => exact ⟨k + 1, _, _, by omega, rfl, by go_num, HB5, HN5⟩
          case measure => simp [intOf]; omega
      · have hkn : k = n1 := by omega
        subst hkn
        go_wp2
        go_ret2
        exact givesIs_of HR.out HBEL.out (missL_len _ _ _) HOWN.out
  · have HR := Lib.hid (shortOf_bad hc e3)
    clear e3 hc
    go_enter Try.func27, Try.ntmps27
    go_wp2_with (go_at_call 51; refine CO.mono ?_; rintro e w' ⟨rfl, rfl⟩)
    go_ret2
    exact givesIs_nil HR.out (Below.refl _ _)
end Go.Proofs.Ytoecbbkaokgjeaa
