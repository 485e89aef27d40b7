/-
  The walk of the law FnNearest: it returns true at every input.
-/
import Derived.Test.YtpkkibnpjhlfmaaDoorLaws6
import Derived.Test.YtpkkibnpjhlfmaaDoorNearLaw
import Derived.Test.YtpkkibnpjhlfmaaDoorDraw5d
import Derived.Test.YtpkkibnpjhlfmaaDoorNearImpl
import Derived.Test.YtpkkibnpjhlfmaaDoorMisImpl
import Derived.Test.YtpkkibnpjhlfmaaDoorWorstImpl
import Derived.Test.YtpkkibnpjhlfmaaDoorBitLaid
import Derived.Test.YtpkkibnpjhlfmaaDoorRows
import Derived.Deep.DeepCutAuto
namespace Go.Proofs.YtpkkibnpjhlfmaaDoor.fnNearest
open Go.RowKit
theorem own_cap {w : World} {lo : Nat} {e : TypeId} {a : Option Addr} {n c : Nat} {xs : List Value} (h : w.ownsRow lo e 1 (.slice a n c) n xs) : n ≤ c ∧ c ≤ 9223372036854775807 := by
  rcases h.2 with ⟨hv, hz⟩ | ⟨g, cap, cur, hv, _, _, h1, h2, _⟩
  · injection hv with h1 h2 h3
    omega
  · injection hv with h3 h4 h5
    unfold maxLen at h2
    omega
/-- Some pair among those that have been met has the distance l. -/
def Found (ss : List ByteArray) (l : Int) (i k : Nat) : Prop := ∃ b, ∃ hb : b < ss.length, ∃ s, ∃ hs : s < b, (b < i ∨ (b = i ∧ s < k)) ∧ distP ss[b] (ss[s]'(by omega)) = (l, 0)
theorem found_none (ss : List ByteArray) (l : Int) : ¬ Found ss l 0 0 := by
  rintro ⟨b, _, s, _, h, _⟩
  omega
theorem found_row {ss : List ByteArray} {l : Int} {i : Nat} : Found ss l (i + 1) 0 ↔ Found ss l i i := by
  constructor
  · rintro ⟨b, hb, s, hs, h, e⟩
    exact ⟨b, hb, s, hs, by omega, e⟩
  · rintro ⟨b, hb, s, hs, h, e⟩
    exact ⟨b, hb, s, hs, by omega, e⟩
theorem found_next {ss : List ByteArray} {l x : Int} {i k : Nat} (hi : i < ss.length) (hk : k < i) (h : distP ss[i] (ss[k]'(by omega)) = (x, 0)) : Found ss l i (k + 1) ↔ (Found ss l i k ∨ x = l) := by
  constructor
  · rintro ⟨b, hb, s, hs, h1, e⟩
    by_cases e1 : b = i ∧ s = k
    · obtain ⟨rfl, rfl⟩ := e1
      rw [h] at e
      injection e with e _
      exact .inr e
    · exact .inl ⟨b, hb, s, hs, by omega, e⟩
  · rintro (⟨b, hb, s, hs, h1, e⟩ | rfl)
    · exact ⟨b, hb, s, hs, by omega, e⟩
    · exact ⟨i, hi, k, hk, by omega, h⟩
theorem pair_eta {α β : Type} {p : α × β} {a : α} {b : β} (h1 : p.1 = a) (h2 : p.2 = b) : p = (a, b) := by
  cases p; simp_all

set_option maxRecDepth 100000 in
set_option maxHeartbeats 16000000 in
theorem walk {w : World} (v : Value) (x : Unit) (hw : CodeArg w v x) (_hL : laidMetH Tryd.prog Rows.fnNearestRow.laid w) :
    Calls Tryd.prog 3 #[v] w fun e w' => e = .returned (.bool true) ∧ Below w.heap.size w w' := by
  have HT : Hid (∀ W, Below w.heap.size w W → BitTab W) := by
    rw [MakeChecks.laidMetH_plain _ _ _ (by kernel_rfl)] at _hL
    exact fun W hB => (bit_of_laid _hL).below hB
  clear _hL
  obtain ⟨_, a, n, c, rfl, hn, hc⟩ := hw
  have HC : Hid (∀ W, Below w.heap.size w W → CodeIn W.heap.size a n W) := fun W hB => hc.later hB
  clear hc
  by_cases hbig : 4096 < n
  · have hb : decide (4096 < n) = true := by simp [hbig]
    go_enter Tryd.func3, Tryd.ntmps3
    go_wp2_with (go_at_call 6; refine (f6big_any _ _ _ _ hn).mono ?_; rintro e w' ⟨rfl, rfl⟩; rw [hb])
    go_ret
    exact ⟨rfl, Below.refl _ _⟩
  have hb : decide (4096 < n) = false := by simp [hbig]
  have hn4 : n ≤ 4096 := by omega
  clear hbig
  go_enter Tryd.func3, Tryd.ntmps3
  go_wp2_with (go_at_call 6; refine (f6big_any _ _ _ _ hn).mono ?_; rintro e w' ⟨rfl, rfl⟩; rw [hb])
  refine (drawNear_any a n c _ (HC.out _ (Below.refl _ _)) hn4).mono ?_
  rintro e w2 ⟨sg, ss, av, m, cv, s, rfl, HN, hm, HZ, hs, hb2, ho2⟩
  have B2 := Lib.hid hb2
  obtain ⟨hcap, hcm⟩ := own_cap ho2
  have HR : Hid (∀ W, Below w2.heap.size w2 W → RS W (some ⟨av, 0, none⟩) ss) := fun W hB => (rowS_RS HN ho2).below hB
  have HCL : Hid (∀ W, Below w2.heap.size w2 W → ∀ i (h : i < ss.length), W.cell? ⟨av, i, none⟩ = some (.string ss[i])) := fun W hB i h => (hB.cell (p := ⟨av, i, none⟩) (ho2.lt av rfl).2).trans (row_cellD ho2 i h)
  have HSZ : Hid (∀ s ∈ ss, s.size ≤ 1048576) := fun s hs => by have := HZ.out s hs; omega
  have hm' : m ≤ 1048576 := by omega
  have hs' : s.size ≤ 1048576 := by omega
  clear hb2 ho2
  -- what the functions answer
  have N1 := fun W hR hT => implNear_any sg (some ⟨av, 0, none⟩) ss m cv s W HN hR hm' hcap hcm HSZ hs' hT
  have N2 := fun W hR => specNear_any sg (some ⟨av, 0, none⟩) ss m cv s W HN hR hm' HSZ hs'
  have L1 := fun W hR => implLeast_any sg (some ⟨av, 0, none⟩) ss m cv W HN hR hm' hcap hcm HSZ
  have L2 := fun W hR => specLeast_any sg (some ⟨av, 0, none⟩) ss m cv W HN hR hm' HSZ
  have C1 := fun W hR => implCorr_any sg (some ⟨av, 0, none⟩) ss m cv W HN hR hm' hcap hcm HSZ
  have C2 := fun W hR => specCorr_any sg (some ⟨av, 0, none⟩) ss m cv W HN hR hm' HSZ
  have W1 := fun W hR => implWorst_any sg (some ⟨av, 0, none⟩) ss m cv W HN hR hm' hcap hcm HSZ
  have W2 := fun W hR => specWorst_any sg (some ⟨av, 0, none⟩) ss m cv W HN hR hm' HSZ
  have V1 := fun W hR => implValid_any sg (some ⟨av, 0, none⟩) ss m cv W HN hR hm' hcap hcm HSZ
  have V2 := fun W hR => specValid_any sg (some ⟨av, 0, none⟩) ss m cv W HN hR hm' HSZ
  obtain ⟨nk, nd, nb, hnear⟩ : ∃ nk nd nb, nearAns sg ss s = (nk, nd, nb) := ⟨_, _, _, rfl⟩
  obtain ⟨la, lb, hleast⟩ : ∃ la lb, leastAns sg ss = (la, lb) := ⟨_, _, rfl⟩
  obtain ⟨ka, kb, hcorr⟩ : ∃ ka kb, corrAns sg ss = (ka, kb) := ⟨_, _, rfl⟩
  obtain ⟨xa, xb, hworst⟩ : ∃ xa xb, worstAns sg ss = (xa, xb) := ⟨_, _, rfl⟩
  have FN : Hid (nb = 0 → ∀ i (hi : i < ss.length), ∃ x : Int, distP ss[i] s = (x, 0) ∧ ((i : Int) = nk ∨ nd < x)) := fun h => near_unique (by rw [hnear, h])
  have FL : Hid (lb = 0 → 1 ≤ la ∧ la ≤ 8 ∧ (∀ i (hi : i < ss.length) k (hk : k < i), ∃ x : Int, distP ss[i] (ss[k]'(by omega)) = (x, 0) ∧ la ≤ x) ∧ ∃ i, ∃ hi : i < ss.length, ∃ k, ∃ hk : k < i, distP ss[i] (ss[k]'(by omega)) = (la, 0)) := fun h => least_all (by rw [hleast, h])
  have FC : Hid (lb = 0 → ka = halfD la) := fun h => by have := corr_of (g := sg) (ss := ss) (l := la) (by rw [hleast, h]); rw [hcorr] at this; exact this
  rw [hnear] at N1 N2
  rw [hleast] at L1 L2
  rw [hcorr] at C1 C2
  rw [hworst] at W1 W2
  generalize okB sg (bls ss) = ok at V1 V2
  clear hnear hleast hcorr hworst
  simp only at L1 L2 C1 C2 W1 W2
  go_wp2_with fail
  refine (N1 _ (HR.out _ (Below.refl _ _)) (HT.out _ B2.out)).mono ?_
  rintro e w3 ⟨rfl, hb3⟩
  have E3 := Lib.hid hb3
  clear hb3
  go_wp2_with fail
  refine (N2 _ (HR.out _ E3.out)).mono ?_
  rintro e w4 ⟨rfl, hb4⟩
  have E4 := Lib.hid (two_worlds' E3.out hb4)
  clear hb4 E3 N1 N2
  go_wp2_with fail
  refine (L1 _ (HR.out _ E4.out)).mono ?_
  rintro e w5 ⟨rfl, hb5⟩
  have E5 := Lib.hid (two_worlds' E4.out hb5)
  clear hb5 E4
  go_wp2_with fail
  refine (L2 _ (HR.out _ E5.out)).mono ?_
  rintro e w6 ⟨rfl, hb6⟩
  have E6 := Lib.hid (two_worlds' E5.out hb6)
  clear hb6 E5 L1 L2
  go_wp2_with fail
  refine (C1 _ (HR.out _ E6.out)).mono ?_
  rintro e w7 ⟨rfl, hb7⟩
  have E7 := Lib.hid (two_worlds' E6.out hb7)
  clear hb7 E6
  go_wp2_with fail
  refine (C2 _ (HR.out _ E7.out)).mono ?_
  rintro e w8 ⟨rfl, hb8⟩
  have E8 := Lib.hid (two_worlds' E7.out hb8)
  clear hb8 E7 C1 C2
  go_wp2_with fail
  refine (drawDist_any a n c _ (HC.out _ (two_worlds' B2.out E8.out)) hn4).mono ?_
  rintro e w9 ⟨u, t, rfl, hu, ht, hb9⟩
  have E9 := Lib.hid (two_worlds' E8.out hb9)
  clear hb9 E8
  have hu' : u.size ≤ 1048576 := by omega
  have ht' : t.size ≤ 1048576 := by omega
  have D1 := fun W => implDistance_any u t hu' ht' W
  have D2 := fun W => specDistance_any u t hu' ht' W
  have D3 := fun W => implDistance_any t u ht' hu' W
  rw [distP_symm t u] at D3
  obtain ⟨da, db, hdist⟩ : ∃ da db, distP u t = (da, db) := ⟨_, _, rfl⟩
  rw [hdist] at D1 D2 D3
  simp only at D1 D2 D3
  clear hdist
  go_wp2_with fail
  refine (D1 _).mono ?_
  rintro e w10 ⟨rfl, hb10⟩
  have E10 := Lib.hid (two_worlds' E9.out hb10)
  clear hb10 E9
  go_wp2_with fail
  refine (D2 _).mono ?_
  rintro e w11 ⟨rfl, hb11⟩
  have E11 := Lib.hid (two_worlds' E10.out hb11)
  clear hb11 E10
  go_wp2_with fail
  refine (D3 _).mono ?_
  rintro e w12 ⟨rfl, hb12⟩
  have E12 := Lib.hid (two_worlds' E11.out hb12)
  clear hb12 E11 D1 D2 D3
  go_wp2_with fail
  refine (drawMis_any a n c _ (HC.out _ (two_worlds' B2.out E12.out)) hn4).mono ?_
  rintro e w13 ⟨sh, tt, at', mt, ct, j, rings, rfl, HNT, hmt, HZT, hb13, ho13⟩
  have E13 := Lib.hid (two_worlds' E12.out hb13)
  obtain ⟨hcapt, hcmt⟩ := own_cap ho13
  have HRT : Hid (∀ W, Below w13.heap.size w13 W → RS W (some ⟨at', 0, none⟩) tt) := fun W hB => (rowS_RS HNT ho13).below hB
  clear hb13 E12 ho13
  have HSZT : Hid (∀ s ∈ tt, s.size ≤ 1048576) := fun s hs => by have := HZT.out s hs; omega
  have hmt' : mt ≤ 1048576 := by omega
  have M1 := fun W hR hT => implMis_any sh (some ⟨at', 0, none⟩) tt mt ct j rings W HNT hR hmt' hcapt hcmt HSZT hT
  have M2 := fun W hR => specMis_any sh (some ⟨at', 0, none⟩) tt mt ct j rings W HNT hR hmt' HSZT
  have hlen := misAns_len sh tt j rings (by rw [HNT.out]; exact hmt')
  obtain ⟨ml, mb, hmis⟩ : ∃ ml mb, misAns sh tt j rings = (ml, mb) := ⟨_, _, rfl⟩
  rw [hmis] at M1 M2 hlen
  simp only at hlen
  obtain ⟨mm, hmm⟩ : ∃ mm, ml.length = mm := ⟨_, rfl⟩
  rw [hmm] at hlen
  have HML := Lib.hid hmm
  clear hmis hmm
  go_wp2_with fail
  refine (M1 _ (HRT.out _ (Below.refl _ _)) (HT.out _ (two_worlds' B2.out E13.out))).mono ?_
  intro e w14 hgv
  obtain ⟨aG, cG, rfl, hb14, hoG⟩ := hgv.elim HML
  have E14 := Lib.hid (two_worlds' E13.out hb14)
  have HRG : Hid (∀ W, Below w14.heap.size w14 W → RI W aG ml) := fun W hB => (own_RI HML hoG).below hB
  have HRT2 : Hid (RS w14 (some ⟨at', 0, none⟩) tt) := HRT.out _ hb14
  clear hb14 E13 hoG hgv
  go_wp2_with fail
  refine (M2 _ HRT2.out).mono ?_
  intro e w15 hgv
  obtain ⟨aH, cH, rfl, hb15, hoH⟩ := hgv.elim HML
  have E15 := Lib.hid (two_worlds' E14.out hb15)
  have F15 := Lib.hid hb15
  have HRH : Hid (∀ W, Below w15.heap.size w15 W → RI W aH ml) := fun W hB => (own_RI HML hoH).below hB
  clear hb15 E14 hoH hgv M1 M2 HRT HRT2
  go_wp2_with fail
  refine (W1 _ (HR.out _ E15.out)).mono ?_
  rintro e w16 ⟨rfl, hb16⟩
  have E16 := Lib.hid (two_worlds' E15.out hb16)
  have G16 := Lib.hid (hb16)
  clear hb16 E15
  go_wp2_with fail
  refine (W2 _ (HR.out _ E16.out)).mono ?_
  rintro e w17 ⟨rfl, hb17⟩
  have E17 := Lib.hid (two_worlds' E16.out hb17)
  have G17 := Lib.hid (two_worlds' G16.out hb17)
  clear hb17 E16 G16 W1 W2
  have RG := Lib.hid (HRG.out _ (two_worlds' F15.out G17.out))
  have RH := Lib.hid (HRH.out _ G17.out)
  go_wp2_with fail
  refine (f6ints_any _ _ ml ml _ _ _ _ _ HML HML RG.out RH.out (by unfold maxLen; omega)).mono ?_
  rintro e w18 ⟨rfl, hb18⟩
  have E18 := Lib.hid (two_worlds' E17.out hb18)
  have G18 := Lib.hid (two_worlds' G17.out hb18)
  clear hb18 E17 G17 RG RH HRG HRH F15
  go_wp2_with fail
  refine (V1 _ (HR.out _ E18.out)).mono ?_
  rintro e w19 ⟨rfl, hb19⟩
  have E19 := Lib.hid (two_worlds' E18.out hb19)
  have G19 := Lib.hid (two_worlds' G18.out hb19)
  clear hb19 E18 G18
  go_wp2_with fail
  refine (V2 _ (HR.out _ E19.out)).mono ?_
  rintro e w20 ⟨rfl, hb20⟩
  have E20 := Lib.hid (two_worlds' E19.out hb20)
  have G20 := Lib.hid (two_worlds' G19.out hb20)
  clear hb20 E19 G19 V1 V2
  have B9 := Lib.hid (two_worlds' B2.out E20.out)
  clear G20
  go_upto_region 21 with fail
  obtain ⟨bb, hbb⟩ : ∃ bb, decide (nb = 0 ∧ 0 < nd ∧ lb = 0 ∧ nd ≤ ka) = bb := ⟨_, rfl⟩
  have HBB := Lib.hid hbb
  clear hbb
  have HBX : Hid (∀ W, Below w20.heap.size w20 W → Below w2.heap.size w2 W) := fun W hB => two_worlds' E20.out hB
  have HBY : Hid (∀ W, Below w20.heap.size w20 W → Below w.heap.size w W) := fun W hB => two_worlds' B9.out hB
  clear B9 B2 E20
  go_cut [251] (fun q wx => q = .bool bb ∧ w20 = wx)
  case first => as_aux_lemma =>
    rcases eq_ways nb 0 with ⟨⟨e1, e2⟩, e3⟩ | ⟨⟨e1, e2⟩, e3⟩
    · by_cases h2 : 0 < nd
      · rcases eq_ways lb 0 with ⟨⟨f1, f2⟩, f3⟩ | ⟨⟨f1, f2⟩, f3⟩
        · by_cases h4 : nd ≤ ka
          · have HB1 : Hid (bb = true) := by unfold Hid; rw [← HBB.out]; simp [*]
            clear e3 f3
            go_wp2
            go_meet
            exact ⟨by rw [HB1.out], rfl⟩
          · have HB1 : Hid (bb = false) := by unfold Hid; rw [← HBB.out]; simp [*]
            clear e3 f3
            go_wp2
            go_meet
            exact ⟨by rw [HB1.out], rfl⟩
        · have HB1 : Hid (bb = false) := by unfold Hid; rw [← HBB.out]; simp [*]
          clear e3 f3
          go_wp2
          go_meet
          exact ⟨by rw [HB1.out], rfl⟩
      · have HB1 : Hid (bb = false) := by unfold Hid; rw [← HBB.out]; simp [*]
        clear e3
        go_wp2
        go_meet
        exact ⟨by rw [HB1.out], rfl⟩
    · have HB1 : Hid (bb = false) := by unfold Hid; rw [← HBB.out]; simp [*]
      clear e3
      go_wp2
      go_meet
      exact ⟨by rw [HB1.out], rfl⟩
  case rest => as_aux_lemma =>
    obtain ⟨rfl, rfl⟩ := hcut
    go_upto_if 251 with fail
    go_cut [40] (fun _ wx => Hid (Below w20.heap.size w20 wx))
    case first => as_aux_lemma =>
      cases bb with
      | false =>
        go_wp2
        go_meet
        exact Below.refl _ _
      | true =>
        have hall := of_decide_eq_true HBB.out
        have HN0 := Lib.hid (FN.out hall.1)
        clear HBB hall FN
        go_wp2
        go_loopw [40] (fun iv wr => ∃ k : Nat, k ≤ m ∧ iv = .int .i64 (k : Int) ∧ Hid (Below w20.heap.size w20 wr)) (fun iv _ => m - (intOf iv).toNat)
        case atStart => exact ⟨0, by omega, rfl, Below.refl _ _⟩
        case round =>
          obtain ⟨k, hk, rfl, HW⟩ := hrel
          by_cases hlt : k < m
          · have hkl : k < ss.length := by rw [HN.out]; exact hlt
            have x0 := HCL.out _ (HBX.out _ HW.out) k hkl
            have hz0 := HSZ.out _ (List.getElem_mem hkl)
            obtain ⟨y, hy, hcase⟩ := HN0.out k hkl
            generalize ss[k] = t0 at x0 hz0 hy
            have DD := fun W => implDistance_any t0 s hz0 hs' W
            rw [hy] at DD
            simp only at DD
            have hk0 : (0 : Int) ≤ (k : Int) := by omega
            have hk1 : (k : Int) < (m : Int) := by omega
            clear hy
            rcases eq_ways (k : Int) nk with ⟨⟨e1, e2⟩, e3⟩ | ⟨⟨e1, e2⟩, e3⟩
            · clear hcase e3
              go_wp2_with (go_at_call 15; refine (DD _).mono ?_; rintro e w21 ⟨rfl, hb21⟩)
              go_roundw
              case rel => exact ⟨k + 1, by omega, by go_num, two_worlds' HW.out hb21⟩
              case measure => simp [intOf]; omega
            · have hyd : ¬ y ≤ nd := by rcases hcase with h | h <;> omega
              clear hcase e3
              go_wp2_with (go_at_call 15; refine (DD _).mono ?_; rintro e w21 ⟨rfl, hb21⟩)
              go_roundw
              case rel => exact ⟨k + 1, by omega, by go_num, two_worlds' HW.out hb21⟩
              case measure => simp [intOf]; omega
          · have hkm : k = m := by omega
            subst hkm
            go_wp2
            go_meet
            exact HW.out
    case rest => as_aux_lemma =>
      have HW := Lib.hid hcut.out
      clear hcut
      rcases eq_ways lb 0 with ⟨⟨f1, f2⟩, f3⟩ | ⟨⟨f1, f2⟩, f3⟩
      · have h0 := FL.out f3
        have hla1 := h0.1
        have hla8 := h0.2.1
        have HP := Lib.hid h0.2.2.1
        have HE := Lib.hid h0.2.2.2
        have hka := FC.out f3
        have hh := halfD_at hla1
        rw [← hka] at hh
        obtain ⟨hh1, hh2, hh3⟩ := hh
        clear h0 hka f3 FL FC FN HBB
        generalize wc = w21 at *
        go_wp2
        go_loopw [43, 44] (fun fv iv wr => ∃ (i : Nat) (fo : Bool), i ≤ m ∧ fv = .bool fo ∧ iv = .int .i64 (i : Int) ∧ Hid (Below w20.heap.size w20 wr) ∧ Hid (fo = true ↔ Found ss la i 0)) (fun _ iv _ => m - (intOf iv).toNat)
        case atStart => exact ⟨0, false, by omega, rfl, rfl, HW.out, ⟨fun h => (by cases h), fun h => absurd h (found_none ss la)⟩⟩
        case round =>
          obtain ⟨i, fo, hi, rfl, rfl, HW2, HF⟩ := hrel
          by_cases hlt : i < m
          · have hil : i < ss.length := by rw [HN.out]; exact hlt
            have hi0 : (0 : Int) ≤ (i : Int) := by omega
            have hi1 : (i : Int) < (m : Int) := by omega
            go_wp2
            go_loopw [43, 45] (fun fv kv wr => ∃ (k : Nat) (fo : Bool), k ≤ i ∧ fv = .bool fo ∧ kv = .int .i64 (k : Int) ∧ Hid (Below w20.heap.size w20 wr) ∧ Hid (fo = true ↔ Found ss la i k)) (fun _ kv _ => i - (intOf kv).toNat)
            case atStart => exact ⟨0, fo, by omega, rfl, rfl, HW2.out, HF.out⟩
            case round =>
              obtain ⟨k, fp, hk, rfl, rfl, HW3, HF3⟩ := hrel
              by_cases hltk : k < i
              · have x0 := HCL.out _ (HBX.out _ HW3.out) i hil
                have x1 := HCL.out _ (HBX.out _ HW3.out) k (by omega)
                have hz0 := HSZ.out _ (List.getElem_mem hil)
                have hz1 := HSZ.out _ (List.getElem_mem (l := ss) (n := k) (by omega))
                obtain ⟨y, hy, hle⟩ := HP.out i hil k hltk
                have HNX := Lib.hid (found_next (l := la) hil hltk hy)
                generalize ss[i] = t0 at x0 hz0 hy
                generalize ss[k]'(by omega) = t1 at x1 hz1 hy
                have DD := fun W => implDistance_any t0 t1 hz0 hz1 W
                rw [hy] at DD
                simp only at DD
                have hk0 : (0 : Int) ≤ (k : Int) := by omega
                have hk1 : (k : Int) < (i : Int) := by omega
                have hk2 : (k : Int) < (m : Int) := by omega
                have hyd : ¬ y < la := by omega
                have hav : av < wr.heap.size := World.block_lt_of_cell? wr _ x0
                clear hy hle
                go_upto_region 37 with fail
                go_region_held3 (fun w' => w'.cell? ⟨av, i, none⟩ = some (.string t0) ∧ w'.cell? ⟨av, k, none⟩ = some (.string t1)) (first | exact ⟨x0, x1⟩ | exact ⟨(hb22.cell (p := ⟨av, i, none⟩) hav).trans x0, (hb22.cell (p := ⟨av, k, none⟩) hav).trans x1⟩) ((go_at_call 15; refine (DD _).mono ?_; rintro e w22 ⟨rfl, hb22⟩))
                all_goals
                  have HB22 : Hid (Below w20.heap.size w20 w22) := by first | exact two_worlds' HW3.out hb22 | exact two_worlds' (Below.drew HW3.out) hb22 | exact two_worlds' (Below.drewN' HW3.out _) hb22
                  clear hb22 x0 x1 DD
                  cases fp with
                  | true =>
                    have HF4 : Hid (true = true ↔ Found ss la i (k + 1)) := ⟨fun _ => HNX.out.2 (.inl (HF3.out.1 rfl)), fun _ => rfl⟩
                    go_wp2
                    go_roundw
                    case rel => exact ⟨k + 1, true, by omega, rfl, by go_num, HB22.out, HF4.out⟩
                    case measure => simp [intOf]; omega
                  | false =>
                    rcases eq_ways y la with ⟨⟨g1, g2⟩, g3⟩ | ⟨⟨g1, g2⟩, g3⟩
                    · have HF4 : Hid (true = true ↔ Found ss la i (k + 1)) := ⟨fun _ => HNX.out.2 (.inr g3), fun _ => rfl⟩
                      clear g3
                      go_wp2
                      go_roundw
                      case rel => exact ⟨k + 1, true, by omega, rfl, by go_num, HB22.out, HF4.out⟩
                      case measure => simp [intOf]; omega
                    · have HF4 : Hid (false = true ↔ Found ss la i (k + 1)) := ⟨fun h => absurd h (by simp), fun h => by
                        rcases HNX.out.1 h with h | h
                        · exact HF3.out.2 h
                        · exact absurd h g3⟩
                      clear g3
                      go_wp2
                      go_roundw
                      case rel => exact ⟨k + 1, false, by omega, rfl, by go_num, HB22.out, HF4.out⟩
                      case measure => simp [intOf]; omega
              · have hki : k = i := by omega
                subst hki
                have HF4 : Hid (fp = true ↔ Found ss la (k + 1) 0) := ⟨fun h => found_row.2 (HF3.out.1 h), fun h => HF3.out.2 (found_row.1 h)⟩
                go_wp2
                go_roundw
                case rel => exact ⟨k + 1, fp, by omega, rfl, by go_num, HW3.out, HF4.out⟩
                case measure => simp [intOf]; omega
          · have him : i = m := by omega
            subst him
            have hfo : fo = true := HF.out.2 (by
              obtain ⟨b, hb, s, hs, e⟩ := HE.out
              exact ⟨b, hb, s, hs, .inl (by rw [← HN.out]; exact hb), e⟩)
            subst hfo
            go_wp2
            go_ret
            exact ⟨rfl, HBY.out _ HW2.out⟩
      · clear f3
        go_wp2
        go_ret
        exact ⟨rfl, HBY.out _ HW.out⟩
end Go.Proofs.YtpkkibnpjhlfmaaDoor.fnNearest
