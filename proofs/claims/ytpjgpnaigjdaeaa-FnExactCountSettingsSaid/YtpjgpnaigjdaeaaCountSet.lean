/-
  The walks of CountSettings, the model's and the program's.
-/
import Derived.Test.YtpjgpnaigjdaeaaTubesBy
namespace Go.Proofs.Ytpjgpnaigjdaeaa
open Go.RowKit Go.Maps

theorem tubesByFrom_any (s : Int) (a : Option Addr) (ts : List T3) (n ca : Nat) (w : World) (hn : Hid (ts.length = n)) (ha : RT w a ts) (hnet : netB s ts = true) :
    Calls Try.prog 91 #[.agg #[.int .i64 s, .slice a n ca]] w fun e w' => ∃ b, e = .returned (.map (some b)) ∧ Groups w' b ts n ∧ Below w.heap.size w w' ∧ w.heap.size ≤ b := by
  have HA : Hid (∀ w', Below w.heap.size w w' → RT w' a ts) := fun w' h => ha.below h
  have HN := Lib.hid hnet
  clear ha hnet
  go_enter Try.func91, Try.ntmps91
  go_wp2_with fail
  refine (tubesBy_any s a ts n ca (w.alloc (.cells #[.int .i64 s, .slice a n ca] 26)) hn (HA.out _ (by (repeat (first | exact Below.refl _ _ | refine Below.drew ?_ | refine Below.drewN' ?_ _ | refine Below.alloc ?_ (by first | (simp; done) | (simp; omega)) _ | refine Below.setCell ?_ (by first | (simp; done) | (simp; omega)) _)); done)) HN.out).mono ?_
  rintro e w1 ⟨rfl, hg, hb1⟩
  have B1 := Lib.hid (Below.trans (show Below w.heap.size w (w.alloc (.cells #[.int .i64 s, .slice a n ca] 26)) from (by repeat (first | exact Below.refl _ _ | refine Below.alloc ?_ (by simp; try omega) _ | refine Below.setCell ?_ (by simp; try omega) _))) (hb1.mono (by simp)))
  have NS : (w.alloc (.cells #[.int .i64 s, .slice a n ca] 26)).heap.size = w.heap.size + 1 := by simp
  rw [NS] at hg
  have HG := Lib.hid hg
  clear hb1 hg NS
  go_wp2
  go_ret
  exact ⟨_, rfl, HG.out, B1.out, by omega⟩

/-- How many tubes begin at a station, of the first k. -/
def degP (ts : List T3) (k i : Nat) : Nat := (fromL ts k (i : Int)).length
theorem degP_hit {ts : List T3} {k i : Nat} (hk : k < ts.length) (h : (ts[k]).1 = (i : Int)) : degP ts (k + 1) i = degP ts k i + 1 := by
  unfold degP; rw [← h, fromL_hit hk]; simp
theorem degP_miss {ts : List T3} {k i : Nat} (hk : k < ts.length) (h : ¬ (ts[k]).1 = (i : Int)) : degP ts (k + 1) i = degP ts k i := by
  unfold degP; rw [fromL_miss hk h]
theorem degP_zero (ts : List T3) (i : Nat) : degP ts 0 i = 0 := rfl
def sumP (ts : List T3) (k : Nat) : Nat → Nat
  | 0 => 0
  | m + 1 => sumP ts k m + degP ts k m
theorem sumP_step {ts : List T3} {k : Nat} (hk : k < ts.length) (m : Nat) : sumP ts (k + 1) m ≤ sumP ts k m + (if (ts[k]).1 < (m : Int) then 1 else 0) := by
  induction m with
  | zero => exact Nat.zero_le _
  | succ m ih =>
    unfold sumP
    by_cases h : (ts[k]).1 = (m : Int)
    · rw [degP_hit hk h]
      rw [if_neg (by omega)] at ih
      rw [if_pos (by omega)]
      omega
    · rw [degP_miss hk h]
      by_cases h2 : (ts[k]).1 < (m : Int)
      · rw [if_pos h2] at ih
        rw [if_pos (by omega)]
        omega
      · rw [if_neg h2] at ih
        rw [if_neg (by omega)]
        omega
theorem sumP_le (ts : List T3) (k m : Nat) (hk : k ≤ ts.length) : sumP ts k m ≤ k := by
  induction k with
  | zero =>
    have : sumP ts 0 m = 0 := by
      induction m with
      | zero => rfl
      | succ m ih => unfold sumP; rw [ih, degP_zero]
    omega
  | succ k ih =>
    have h1 := sumP_step (ts := ts) (k := k) (by omega) m
    have h2 := ih (by omega)
    have h3 : (if (ts[k]).1 < (m : Int) then 1 else 0) ≤ 1 := by split <;> omega
    omega
/-- The settings of the first m switches. -/
def prodF (ts : List T3) (n : Nat) : Nat → Nat
  | 0 => 1
  | m + 1 => prodF ts n m * (degP ts n m + 1)
theorem prodF_le (ts : List T3) (n m : Nat) : prodF ts n m ≤ 2 ^ sumP ts n m := by
  induction m with
  | zero => exact Nat.le_refl _
  | succ m ih =>
    unfold prodF sumP
    rw [Nat.pow_add]
    exact Nat.mul_le_mul ih Nat.lt_two_pow_self
theorem prodF_bound {ts : List T3} {n : Nat} (hn : ts.length = n) (h24 : n ≤ 24) (m : Nat) : prodF ts n m ≤ 16777216 := by
  have h1 := prodF_le ts n m
  have h2 := sumP_le ts n m (by omega)
  have h3 : 2 ^ sumP ts n m ≤ 2 ^ 24 := Nat.pow_le_pow_right (by omega) (by omega)
  have : 2 ^ 24 = 16777216 := by decide
  omega
theorem prodF_mono (ts : List T3) (n m d : Nat) : prodF ts n m ≤ prodF ts n (m + d) := by
  induction d with
  | zero => exact Nat.le_refl _
  | succ d ih =>
    rw [← Nat.add_assoc]
    show _ ≤ prodF ts n (m + d) * (degP ts n (m + d) + 1)
    exact Nat.le_trans ih (Nat.le_mul_of_pos_right _ (by omega))
/-- What CountSettings returns. -/
def countOf (s : Int) (ts : List T3) (n : Nat) : Int × Int := if netB s ts = true then (if 100000 < prodF ts n s.toNat then (0, 5) else (((prodF ts n s.toNat : Nat) : Int), 0)) else (0, 1)
theorem own_slice {w : World} {base : Nat} {e : TypeId} {v : Value} {zs : List Int} (h : w.ownsInts base e .i64 v zs) : ∃ a c, v = .slice a zs.length c := by
  rcases h.1.2 with ⟨hv, h0⟩ | ⟨g, cap, _, hv, _⟩
  · exact ⟨none, 0, by rw [hv, h0]⟩
  · exact ⟨_, _, hv⟩
theorem wrap_mul {p d : Nat} (h : p * (d + 1) ≤ 16777216) : IntKind.i64.wrap ((p : Int) * ((d : Int) + 1)) = ((p * (d + 1) : Nat) : Int) := by
  have e : (p : Int) * ((d : Int) + 1) = ((p * (d + 1) : Nat) : Int) := by simp
  rw [e]
  exact IntWalk.i64_in _ (by omega)

set_option maxHeartbeats 2000000 in
theorem implCount_any (s : Int) (a : Option Addr) (ts : List T3) (n ca : Nat) (w : World) (hn : Hid (ts.length = n)) (ha : RT w a ts) (hmax : n ≤ 1048576) :
    Calls Try.prog 55 #[.agg #[.int .i64 s, .slice a n ca]] w fun e w' => e = .returned (.tuple #[.int .i64 (countOf s ts n).1, .int .i64 (countOf s ts n).2]) ∧ Below w.heap.size w w' := by
  have HA : Hid (∀ w', Below w.heap.size w w' → RT w' a ts) := fun w' h => ha.below h
  clear ha
  go_enter Try.func55, Try.ntmps55
  go_wp2_with fail
  refine (checkStations0_any s a none ts n ca 0 (w.alloc (.cells #[.int .i64 s, .slice a n ca] 26)) hn (HA.out _ (by (repeat (first | exact Below.refl _ _ | refine Below.drew ?_ | refine Below.drewN' ?_ _ | refine Below.alloc ?_ (by first | (simp; done) | (simp; omega)) _ | refine Below.setCell ?_ (by first | (simp; done) | (simp; omega)) _)); done)) hmax).mono ?_
  rintro e w1 ⟨rfl, hb1⟩
  have q0 := (hb1.cell (p := ⟨w.heap.size, 0, none⟩) (by simp)).trans (by simp [go_sem] : _ = some (.int .i64 s))
  have q1 := (hb1.cell (p := ⟨w.heap.size, 1, none⟩) (by simp)).trans (by simp [go_sem] : _ = some (.slice a n ca))
  have B1 := Lib.hid (Below.trans (show Below w.heap.size w (w.alloc (.cells #[.int .i64 s, .slice a n ca] 26)) from (by repeat (first | exact Below.refl _ _ | refine Below.alloc ?_ (by simp; try omega) _ | refine Below.setCell ?_ (by simp; try omega) _))) (hb1.mono (by simp)))
  have hz1 := World.block_lt_of_cell? _ _ q0
  simp only at hz1
  clear hb1
  cases hv : netB s ts with
  | false =>
    have HR : Hid (countOf s ts n = (0, 1)) := by unfold Hid countOf; rw [hv]; rfl
    rw [codeOf_inv hv]
    clear hv
    go_wp2
    go_ret2
    exact ⟨ret_ints HR.out, B1.out⟩
  | true =>
    have HV := Lib.hid hv
    obtain ⟨hs1, hs2, h24, _⟩ := netB_parts hv
    rw [hn.out] at h24
    have H24 := Lib.hid h24
    have hsn : Hid (((s.toNat : Nat) : Int) = s) := by unfold Hid; omega
    have HR : Hid (countOf s ts n = if 100000 < prodF ts n s.toNat then (0, 5) else (((prodF ts n s.toNat : Nat) : Int), 0)) := by unfold Hid countOf; rw [hv]; rfl
    rw [codeOf_ok hv (fun k hk => absurd hk (by simp))]
    clear hv h24
    go_wp2_with fail
    refine (tubesByFrom_any s a ts n ca _ hn (HA.out _ B1.out) HV.out).mono ?_
    rintro e w2 ⟨b, rfl, hg, hb2, _⟩
    have B2 := Lib.hid (two_worldsC B1.out hb2)
    have HG := Lib.hid hg
    have r0 := (hb2.cell (p := ⟨w.heap.size, 0, none⟩) hz1).trans q0
    clear hb2 hg q0 q1
    go_wp2
    go_loop [6, 17] (fun cv iv => ∃ i : Nat, i ≤ s.toNat ∧ iv = .int .i64 (i : Int) ∧ cv = .int .i64 ((prodF ts n i : Nat) : Int)) (fun _ iv => s.toNat - (intOf iv).toNat)
    case atStart => exact ⟨0, by omega, rfl, rfl⟩
    case round =>
      obtain ⟨i, hi, rfl, rfl⟩ := hrel
      have hpb : prodF ts n i ≤ 16777216 := prodF_bound hn.out H24.out i
      by_cases hlt : (i : Int) < s
      · have HNX : Hid (prodF ts n (i + 1) = prodF ts n i * (degP ts n i + 1)) := rfl
        have hnb : prodF ts n i * (degP ts n i + 1) ≤ 16777216 := prodF_bound hn.out H24.out (i + 1)
        obtain ⟨D, hown, hisD, hD⟩ := HG.out
        have hwf : (Lit.int .i64 (i : Int)).wf = true := WalkArith.wf_i64 (by omega)
        obtain ⟨v, hrun, hlk⟩ := groups_at hown (by have := H24.out; unfold maxLen; omega) (keyOf_int_mk Try.underlying2 hwf)
        obtain ⟨zs, hat, hoi, _, _⟩ := looked_elim hlk
        have hz : zs = fromL ts n (i : Int) := datum_eq hoi (hat.symm.trans (hD (i : Int)))
        obtain ⟨va, vc, rfl⟩ := own_slice hoi
        have hdl : zs.length = degP ts n i := by rw [hz]; rfl
        rw [hdl] at hrun
        have HMUL := Lib.hid (wrap_mul hnb)
        have hdb : degP ts n i ≤ 24 := by
          have h1 := sumP_le ts n (i + 1) (by rw [hn.out]; exact Nat.le_refl _)
          have h2 : degP ts n i ≤ sumP ts n (i + 1) := by show _ ≤ sumP ts n i + degP ts n i; omega
          have := H24.out
          omega
        generalize degP ts n i = d at hrun HMUL HNX hdb
        generalize prodF ts n i = p at HMUL HNX hpb
        have hp0 : (0 : Int) ≤ (p : Int) := by omega
        have hp1 : (p : Int) ≤ 16777216 := by omega
        have hd0 : (0 : Int) ≤ (d : Int) := by omega
        have hd1 : (d : Int) ≤ 24 := by omega
        have HPD : Hid (((prodF ts n (i + 1) : Nat) : Int) = (p : Int) * ((d : Int) + 1)) := by unfold Hid; rw [HNX.out]; simp
        have hb0 : (0 : Int) ≤ (p : Int) * ((d : Int) + 1) := by rw [← HPD.out]; omega
        have hb1 : (p : Int) * ((d : Int) + 1) ≤ 16777216 := by
          have := prodF_bound hn.out H24.out (i + 1)
          rw [← HPD.out]; omega
        clear hown hisD hD hwf hlk hat hoi hz hdl hnb hpb hdb
        go_wp2
        go_round
        case rel => exact ⟨i + 1, by have := hsn.out; omega, by go_num, by rw [HPD.out]⟩
        case measure => have := hsn.out; simp [intOf]; omega
      · have hie : i = s.toNat := by have := hsn.out; omega
        subst hie
        generalize prodF ts n s.toNat = p at HR hpb
        by_cases hbig : 100000 < p
        · have HR2 : Hid (countOf s ts n = (0, 5)) := HR.out.trans (if_pos hbig)
          have hb3 : (100000 : Int) < (p : Int) := by omega
          go_wp2
          go_ret2
          exact ⟨ret_ints HR2.out, B2.out⟩
        · have HR2 : Hid (countOf s ts n = ((p : Int), 0)) := HR.out.trans (if_neg hbig)
          have hb3 : ¬ (100000 : Int) < (p : Int) := by omega
          go_wp2
          go_ret2
          exact ⟨ret_ints HR2.out, B2.out⟩

set_option maxHeartbeats 2000000 in
theorem specCount_any (s : Int) (a : Option Addr) (ts : List T3) (n ca : Nat) (w : World) (hn : Hid (ts.length = n)) (ha : RT w a ts) (hmax : n ≤ 1048576) :
    Calls Try.prog 54 #[.agg #[.int .i64 s, .slice a n ca]] w fun e w' => e = .returned (.tuple #[.int .i64 (countOf s ts n).1, .int .i64 (countOf s ts n).2]) ∧ Below w.heap.size w w' := by
  have HA : Hid (∀ w', Below w.heap.size w w' → RT w' a ts) := fun w' h => ha.below h
  clear ha
  go_enter Try.func54, Try.ntmps54
  go_wp2_with fail
  refine (l02Ok_any _ s a ts n ca (w.alloc (.cells #[.int .i64 s, .slice a n ca] 26)) hn (HA.out _ (by (repeat (first | exact Below.refl _ _ | refine Below.drew ?_ | refine Below.drewN' ?_ _ | refine Below.alloc ?_ (by first | (simp; done) | (simp; omega)) _ | refine Below.setCell ?_ (by first | (simp; done) | (simp; omega)) _)); done)) hmax (by simp [go_sem]) (by simp [go_sem])).mono ?_
  rintro e w1 ⟨rfl, hb1⟩
  have q0 := (hb1.cell (p := ⟨w.heap.size, 0, none⟩) (by simp)).trans (by simp [go_sem] : _ = some (.int .i64 s))
  have q1 := (hb1.cell (p := ⟨w.heap.size, 1, none⟩) (by simp)).trans (by simp [go_sem] : _ = some (.slice a n ca))
  have B1 := Lib.hid (Below.trans (show Below w.heap.size w (w.alloc (.cells #[.int .i64 s, .slice a n ca] 26)) from (by repeat (first | exact Below.refl _ _ | refine Below.alloc ?_ (by simp; try omega) _ | refine Below.setCell ?_ (by simp; try omega) _))) (hb1.mono (by simp)))
  clear hb1
  cases hv : netB s ts with
  | false =>
    have HR : Hid (countOf s ts n = (0, 1)) := by unfold Hid countOf; rw [hv]; rfl
    clear hv
    go_wp2
    go_ret2
    exact ⟨ret_ints HR.out, B1.out⟩
  | true =>
    obtain ⟨hs1, hs2, h24, _⟩ := netB_parts hv
    rw [hn.out] at h24
    have H24 := Lib.hid h24
    have hsn : Hid (((s.toNat : Nat) : Int) = s) := by unfold Hid; omega
    have HR : Hid (countOf s ts n = if 100000 < prodF ts n s.toNat then (0, 5) else (((prodF ts n s.toNat : Nat) : Int), 0)) := by unfold Hid countOf; rw [hv]; rfl
    clear hv
    go_wp2
    go_loop [4, 5] (fun cv iv => ∃ i : Nat, i ≤ s.toNat ∧ iv = .int .i64 (i : Int) ∧ cv = .int .i64 ((prodF ts n i : Nat) : Int) ∧ prodF ts n i ≤ 100000) (fun _ iv => s.toNat - (intOf iv).toNat)
    case atStart => exact ⟨0, by omega, rfl, rfl, by show 1 ≤ 100000; omega⟩
    case round =>
      obtain ⟨i, hi, rfl, rfl, hpl⟩ := hrel
      by_cases hlt : (i : Int) < s
      · have HNX : Hid (prodF ts n (i + 1) = prodF ts n i * (degP ts n i + 1)) := rfl
        have hnb : prodF ts n i * (degP ts n i + 1) ≤ 16777216 := prodF_bound hn.out H24.out (i + 1)
        have HMUL := Lib.hid (wrap_mul hnb)
        have HBIG : Hid (100000 < prodF ts n (i + 1) → countOf s ts n = (0, 5)) := fun h => HR.out.trans (if_pos (by
          have h1 := prodF_mono ts n (i + 1) (s.toNat - (i + 1))
          rw [show i + 1 + (s.toNat - (i + 1)) = s.toNat by have := hsn.out; omega] at h1
          omega))
        generalize prodF ts n i = p at HMUL HNX hpl hnb
        have hp0 : (0 : Int) ≤ (p : Int) := by omega
        have hp1 : (p : Int) ≤ 16777216 := by omega
        have hi0 : (0 : Int) ≤ (i : Int) := by omega
        have HPL := Lib.hid hpl
        have HNB := Lib.hid hnb
        clear hpl hnb
        go_wp2
        go_loop [6, 7] (fun hv kv => ∃ k : Nat, k ≤ n ∧ kv = .int .i64 (k : Int) ∧ hv = .int .i64 (((degP ts k i + 1 : Nat)) : Int)) (fun _ kv => n - (intOf kv).toNat)
        case atStart => exact ⟨0, by omega, rfl, rfl⟩
        case round =>
          obtain ⟨k, hk, rfl, rfl⟩ := hrel
          have hdk : degP ts k i ≤ 24 := by
            have h1 := sumP_le ts k (i + 1) (by rw [hn.out]; exact hk)
            have h2 : degP ts k i ≤ sumP ts k (i + 1) := by show _ ≤ sumP ts k i + degP ts k i; omega
            have := H24.out
            omega
          by_cases hlk : k < n
          · have hka : k < ts.length := by rw [hn.out]; exact hlk
            obtain ⟨ba, oa, rfl, hba, hca⟩ := (HA.out w1 B1.out).addr (by omega)
            obtain ⟨y1, y2, y3⟩ := hca k hka
            have HHIT : Hid ((ts[k]).1 = (i : Int) → degP ts (k + 1) i = degP ts k i + 1) := fun h => degP_hit hka h
            have HMISS : Hid (¬ (ts[k]).1 = (i : Int) → degP ts (k + 1) i = degP ts k i) := fun h => degP_miss hka h
            generalize ts[k] = t at y1 y2 y3 HHIT HMISS
            generalize degP ts k i = d at HHIT HMISS hdk
            have hk0 : (0 : Int) ≤ (k : Int) := by omega
            have hk1 : (k : Int) < (n : Int) := by omega
            have hd0 : (0 : Int) ≤ (d : Int) := by omega
            have hd1 : (d : Int) ≤ 24 := by omega
            clear hca
            rcases eq_ways t.1 (i : Int) with ⟨⟨e4, e5⟩, e6⟩ | ⟨⟨e4, e5⟩, e6⟩
            · have HD1 := Lib.hid (HHIT.out e6)
              clear HHIT HMISS e6
              go_wp2
              go_round
              case rel => exact ⟨k + 1, by omega, by go_num, by rw [HD1.out]; go_num⟩
              case measure => simp [intOf]; omega
            · have HD1 := Lib.hid (HMISS.out e6)
              clear HHIT HMISS e6
              go_wp2
              go_round
              case rel => exact ⟨k + 1, by omega, by go_num, by rw [HD1.out]⟩
              case measure => simp [intOf]; omega
          · have hkn : k = n := by omega
            subst hkn
            generalize degP ts k i = d at HMUL HNX hdk HNB
            have hd0 : (0 : Int) ≤ (d : Int) := by omega
            have hd1 : (d : Int) ≤ 24 := by omega
            have hb0 : (0 : Int) ≤ (p : Int) * ((d : Int) + 1) := by
              have : ((p * (d + 1) : Nat) : Int) = (p : Int) * ((d : Int) + 1) := by simp
              omega
            have hb1 : (p : Int) * ((d : Int) + 1) ≤ 16777216 := by
              have : ((p * (d + 1) : Nat) : Int) = (p : Int) * ((d : Int) + 1) := by simp
              have := HNB.out
              omega
            by_cases hbig : 100000 < p * (d + 1)
            · have HR2 := Lib.hid (HBIG.out (by rw [HNX.out]; exact hbig))
              have hb3 : (100000 : Int) < (p : Int) * ((d : Int) + 1) := by
                have : ((p * (d + 1) : Nat) : Int) = (p : Int) * ((d : Int) + 1) := by simp
                omega
              clear hbig
              go_wp2
              go_ret2
              exact ⟨ret_ints HR2.out, B1.out⟩
            · have HS : Hid (prodF ts k (i + 1) ≤ 100000) := by unfold Hid; rw [HNX.out]; omega
              have hb3 : ¬ (100000 : Int) < (p : Int) * ((d : Int) + 1) := by
                have : ((p * (d + 1) : Nat) : Int) = (p : Int) * ((d : Int) + 1) := by simp
                omega
              clear hbig
              go_wp2
              go_round
              case rel => exact ⟨i + 1, by have := hsn.out; omega, by go_num, by rw [HNX.out, show ((p * (d + 1) : Nat) : Int) = (p : Int) * ((d : Int) + 1) by simp], HS.out⟩
              case measure => have := hsn.out; simp [intOf]; omega
      · have hie : i = s.toNat := by have := hsn.out; omega
        subst hie
        generalize prodF ts n s.toNat = p at HR hpl
        have HR2 : Hid (countOf s ts n = ((p : Int), 0)) := HR.out.trans (if_neg (by omega))
        have hp0 : (0 : Int) ≤ (p : Int) := by omega
        go_wp2
        go_ret2
        exact ⟨ret_ints HR2.out, B1.out⟩
end Go.Proofs.Ytpjgpnaigjdaeaa
