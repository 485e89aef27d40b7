/-
  The walk of the law FnCodes5: it returns true at every input.
-/
import Derived.Test.YtpkkibnpjhlfmaaDoorLaws6
import Derived.Test.YtpkkibnpjhlfmaaDoorCodeLaw
import Derived.Test.YtpkkibnpjhlfmaaDoorDraw5e
import Derived.Test.YtpkkibnpjhlfmaaDoorBitLaid
import Derived.Test.YtpkkibnpjhlfmaaDoorRows
import Derived.Deep.DeepCutAuto
import Derived.IntWalk
namespace Go.Proofs.YtpkkibnpjhlfmaaDoor.fnCodes5
open Go.RowKit
theorem own_cap {w : World} {lo : Nat} {e : TypeId} {a : Option Addr} {n c : Nat} {xs : List Value} (h : w.ownsRow lo e 1 (.slice a n c) n xs) : n ≤ c ∧ c ≤ 9223372036854775807 := by
  rcases h.2 with ⟨hv, hz⟩ | ⟨g, cap, cur, hv, _, _, h1, h2, _⟩
  · injection hv with h1 h2 h3
    omega
  · injection hv with h3 h4 h5
    unfold maxLen at h2
    omega

set_option maxRecDepth 100000 in
set_option maxHeartbeats 16000000 in
theorem walk {w : World} (v : Value) (x : Unit) (hw : CodeArg w v x) (_hL : laidMetH Tryd.prog Rows.fnCodes5Row.laid w) :
    Calls Tryd.prog 4 #[v] w fun e w' => e = .returned (.bool true) ∧ Below w.heap.size w w' := by
  have HT : Hid (∀ W, Below w.heap.size w W → BitTab W) := by
    rw [MakeChecks.laidMetH_plain _ _ _ (by kernel_rfl)] at _hL
    exact fun W hB => (bit_of_laid _hL).below hB
  clear _hL
  obtain ⟨_, a, n, c, rfl, hn, hc⟩ := hw
  have HC : Hid (∀ W, Below w.heap.size w W → CodeIn W.heap.size a n W) := fun W hB => hc.later hB
  clear hc
  by_cases hbig : 4096 < n
  · have hb : decide (4096 < n) = true := by simp [hbig]
    go_enter Tryd.func4, Tryd.ntmps4
    go_wp2_with (go_at_call 6; refine (f6big_any _ _ _ _ hn).mono ?_; rintro e w' ⟨rfl, rfl⟩; rw [hb])
    go_ret
    exact ⟨rfl, Below.refl _ _⟩
  have hb : decide (4096 < n) = false := by simp [hbig]
  have hn4 : n ≤ 4096 := by omega
  clear hbig
  go_enter Tryd.func4, Tryd.ntmps4
  go_wp2_with (go_at_call 6; refine (f6big_any _ _ _ _ hn).mono ?_; rintro e w' ⟨rfl, rfl⟩; rw [hb])
  refine (dDrawGreedyCode_any a n c _ (HC.out _ (Below.refl _ _)) hn4).mono ?_
  rintro e w2 ⟨gg, gr, gd, rfl, hb2⟩
  have B2 := Lib.hid hb2
  clear hb2
  obtain ⟨gl, gc, hgr⟩ : ∃ gl gc, ansGreedy gg gr gd = (gl, gc) := ⟨_, _, rfl⟩
  have hgl := ansGreedy_len gg gr gd
  rw [hgr] at hgl
  simp only at hgl
  have FG : Hid (gc = 0 → ∀ i (hi : i < gl.length) k (hk : k < i), ∃ x : Int, distP gl[i] (gl[k]'(by omega)) = (x, 0) ∧ gd ≤ x) := fun h => greedy_pairs (g := gg) (r := gr) (by rw [hgr, h])
  have HGS : Hid (gc = 0 → 0 < gl.length ∧ ∀ s ∈ gl, s.size ≤ 8) := fun h => greedy_some (g := gg) (r := gr) (d := gd) (by rw [hgr, h])
  have G1 := fun W => implGreedy_any gg gr gd W
  have G2 := fun W => specGreedy_any gg gr gd W
  rw [hgr] at G1 G2
  obtain ⟨gm, hgm⟩ : ∃ gm, gl.length = gm := ⟨_, rfl⟩
  rw [hgm] at hgl
  have HGM := Lib.hid hgm
  clear hgm hgr
  -- the greedy codes
  go_wp2_with fail
  refine (G1 _).mono ?_
  intro e w3 hgv
  obtain ⟨aG, cG, rfl, hb3, ho3⟩ := hgv.elim HGM
  have HRG_3 : Hid (∀ W, Below w3.heap.size w3 W → RS W aG gl) := fun W hB => (own_RS HGM ho3).below hB
  have B3 := Lib.hid (two_worlds' B2.out hb3)
  clear hb3 B2 ho3 hgv
  go_wp2_with fail
  refine (G2 _).mono ?_
  intro e w4 hgv
  obtain ⟨aM, cM, rfl, hb4, ho4⟩ := hgv.elim HGM
  have HRM_4 : Hid (∀ W, Below w4.heap.size w4 W → RS W aM gl) := fun W hB => (own_RS HGM ho4).below hB
  have B4 := Lib.hid (two_worlds' B3.out hb4)
  have HRG_4 : Hid (∀ W, Below w4.heap.size w4 W → RS W aG gl) := fun W hB => HRG_3.out W (two_worlds' hb4 hB)
  clear hb4 B3 HRG_3 ho4 hgv G1 G2
  go_wp2_with fail
  refine (dDrawMostAddresses_any a n c _ (HC.out _ B4.out) hn4).mono ?_
  rintro e w5 ⟨ma, mb, mc, rfl, hb5⟩
  have B5 := Lib.hid (two_worlds' B4.out hb5)
  have HRG_5 : Hid (∀ W, Below w5.heap.size w5 W → RS W aG gl) := fun W hB => HRG_4.out W (two_worlds' hb5 hB)
  have HRM_5 : Hid (∀ W, Below w5.heap.size w5 W → RS W aM gl) := fun W hB => HRM_4.out W (two_worlds' hb5 hB)
  clear hb5 B4 HRG_4 HRM_4
  have M1 := fun W hT => implMost_any ma mb mc W hT
  have M2 := fun W => specMost_any ma mb mc W
  obtain ⟨mm, mq, hmost⟩ : ∃ mm mq, mostAns ma mb mc = (mm, mq) := ⟨_, _, rfl⟩
  have FM : Hid (mq = 0 → ∃ l, ansGreedy ma mb mc = (l, 0) ∧ (l.length : Int) ≤ mm) := fun h => greedy_most (by rw [hmost, h])
  rw [hmost] at M1 M2
  simp only at M1 M2
  clear hmost
  go_wp2_with fail
  refine (M1 _ (fun W hB => HT.out W (two_worlds' B5.out hB))).mono ?_
  rintro e w6 ⟨rfl, hb6⟩
  have B6 := Lib.hid (two_worlds' B5.out hb6)
  have HRG_6 : Hid (∀ W, Below w6.heap.size w6 W → RS W aG gl) := fun W hB => HRG_5.out W (two_worlds' hb6 hB)
  have HRM_6 : Hid (∀ W, Below w6.heap.size w6 W → RS W aM gl) := fun W hB => HRM_5.out W (two_worlds' hb6 hB)
  clear hb6 B5 HRG_5 HRM_5
  go_wp2_with fail
  refine (M2 _).mono ?_
  rintro e w7 ⟨rfl, hb7⟩
  have B7 := Lib.hid (two_worlds' B6.out hb7)
  have HRG_7 : Hid (∀ W, Below w7.heap.size w7 W → RS W aG gl) := fun W hB => HRG_6.out W (two_worlds' hb7 hB)
  have HRM_7 : Hid (∀ W, Below w7.heap.size w7 W → RS W aM gl) := fun W hB => HRM_6.out W (two_worlds' hb7 hB)
  clear hb7 B6 HRG_6 HRM_6 M1 M2
  go_wp2_with fail
  refine (dDrawAllWords_any a n c _ (HC.out _ B7.out) hn4).mono ?_
  rintro e w8 ⟨dd, de, rfl, hb8⟩
  have B8 := Lib.hid (two_worlds' B7.out hb8)
  have HRG_8 : Hid (∀ W, Below w8.heap.size w8 W → RS W aG gl) := fun W hB => HRG_7.out W (two_worlds' hb8 hB)
  have HRM_8 : Hid (∀ W, Below w8.heap.size w8 W → RS W aM gl) := fun W hB => HRM_7.out W (two_worlds' hb8 hB)
  clear hb8 B7 HRG_7 HRM_7
  obtain ⟨tl, tc, hall⟩ : ∃ tl tc, ansAll dd de = (tl, tc) := ⟨_, _, rfl⟩
  have htl := ansAll_len dd de
  rw [hall] at htl
  simp only at htl
  have FA0 : tc = 0 → 2 ≤ dd ∧ dd ≤ 4 ∧ 1 ≤ de ∧ de ≤ 8 ∧ tl.length = dd.toNat ^ de.toNat ∧ dd.toNat ^ de.toNat ≤ 300 := fun h => all_count (by rw [hall, h])
  have A1 := fun W => implAll_any dd de W
  have A2 := fun W => specAll_any dd de W
  rw [hall] at A1 A2
  obtain ⟨tm, htm⟩ : ∃ tm, tl.length = tm := ⟨_, rfl⟩
  rw [htm] at htl FA0
  have FA := Lib.hid FA0
  have HTM := Lib.hid htm
  clear htm hall FA0
  go_wp2_with fail
  refine (A1 _).mono ?_
  intro e w9 hgv
  obtain ⟨aT, cT, rfl, hb9, ho9⟩ := hgv.elim HTM
  have HRT_9 : Hid (∀ W, Below w9.heap.size w9 W → RS W aT tl) := fun W hB => (own_RS HTM ho9).below hB
  have B9 := Lib.hid (two_worlds' B8.out hb9)
  have HRG_9 : Hid (∀ W, Below w9.heap.size w9 W → RS W aG gl) := fun W hB => HRG_8.out W (two_worlds' hb9 hB)
  have HRM_9 : Hid (∀ W, Below w9.heap.size w9 W → RS W aM gl) := fun W hB => HRM_8.out W (two_worlds' hb9 hB)
  clear hb9 B8 HRG_8 HRM_8 ho9 hgv
  go_wp2_with fail
  refine (A2 _).mono ?_
  intro e w10 hgv
  obtain ⟨aU, cU, rfl, hb10, ho10⟩ := hgv.elim HTM
  have HRU_10 : Hid (∀ W, Below w10.heap.size w10 W → RS W aU tl) := fun W hB => (own_RS HTM ho10).below hB
  have B10 := Lib.hid (two_worlds' B9.out hb10)
  have HRG_10 : Hid (∀ W, Below w10.heap.size w10 W → RS W aG gl) := fun W hB => HRG_9.out W (two_worlds' hb10 hB)
  have HRM_10 : Hid (∀ W, Below w10.heap.size w10 W → RS W aM gl) := fun W hB => HRM_9.out W (two_worlds' hb10 hB)
  have HRT_10 : Hid (∀ W, Below w10.heap.size w10 W → RS W aT tl) := fun W hB => HRT_9.out W (two_worlds' hb10 hB)
  clear hb10 B9 HRG_9 HRM_9 HRT_9 ho10 hgv A1 A2
  go_wp2_with fail
  refine (drawAdd_any a n c _ (HC.out _ B10.out) hn4).mono ?_
  rintro e w11 ⟨sg, ss, av, m, cv, sd, rfl, HN, hm, HZ, hb11, ho11⟩
  obtain ⟨hcap, hcm⟩ := own_cap ho11
  have HR_11 : Hid (∀ W, Below w11.heap.size w11 W → RS W (some ⟨av, 0, none⟩) ss) := fun W hB => (rowS_RS HN ho11).below hB
  have HCL_11 : Hid (∀ W, Below w11.heap.size w11 W → ∀ i (h : i < ss.length), W.cell? ⟨av, i, none⟩ = some (.string ss[i])) := fun W hB i h => (hB.cell (p := ⟨av, i, none⟩) (ho11.lt av rfl).2).trans (row_cellD ho11 i h)
  have HSZ : Hid (∀ s ∈ ss, s.size ≤ 1048576) := fun s hs => by have := HZ.out s hs; omega
  have hm' : m ≤ 1048576 := by omega
  have B11 := Lib.hid (two_worlds' B10.out hb11)
  have HRG_11 : Hid (∀ W, Below w11.heap.size w11 W → RS W aG gl) := fun W hB => HRG_10.out W (two_worlds' hb11 hB)
  have HRM_11 : Hid (∀ W, Below w11.heap.size w11 W → RS W aM gl) := fun W hB => HRM_10.out W (two_worlds' hb11 hB)
  have HRT_11 : Hid (∀ W, Below w11.heap.size w11 W → RS W aT tl) := fun W hB => HRT_10.out W (two_worlds' hb11 hB)
  have HRU_11 : Hid (∀ W, Below w11.heap.size w11 W → RS W aU tl) := fun W hB => HRU_10.out W (two_worlds' hb11 hB)
  clear hb11 B10 HRG_10 HRM_10 HRT_10 HRU_10 ho11
  obtain ⟨al, ac, hadd⟩ : ∃ al ac, addAns sg ss sd = (al, ac) := ⟨_, _, rfl⟩
  have hal := addAns_len sg ss sd (by rw [HN.out]; exact hm')
  rw [hadd] at hal
  simp only at hal
  have FD : Hid (ac = 0 → ∃ t, al = ss ++ [t] ∧ t.size ≤ 8 ∧ ∀ i (hi : i < ss.length), ∃ x : Int, distP ss[i] t = (x, 0) ∧ sd ≤ x) := fun h => add_far (by rw [hadd, h])
  have D1 := fun W hR => implAdd_any sg (some ⟨av, 0, none⟩) ss m cv sd W HN hR hm' hcap hcm HSZ
  have D2 := fun W hR => specAdd_any sg (some ⟨av, 0, none⟩) ss m cv sd W HN hR hm' HSZ
  rw [hadd] at D1 D2
  obtain ⟨am, ham⟩ : ∃ am, al.length = am := ⟨_, rfl⟩
  rw [ham] at hal
  have HAM := Lib.hid ham
  clear ham hadd
  go_wp2_with fail
  refine (D1 _ (HR_11.out _ (Below.refl _ _))).mono ?_
  intro e w12 hgv
  obtain ⟨aX, cX, rfl, hb12, ho12⟩ := hgv.elim HAM
  have HRX_12 : Hid (∀ W, Below w12.heap.size w12 W → RS W aX al) := fun W hB => (own_RS HAM ho12).below hB
  have B12 := Lib.hid (two_worlds' B11.out hb12)
  have HRG_12 : Hid (∀ W, Below w12.heap.size w12 W → RS W aG gl) := fun W hB => HRG_11.out W (two_worlds' hb12 hB)
  have HRM_12 : Hid (∀ W, Below w12.heap.size w12 W → RS W aM gl) := fun W hB => HRM_11.out W (two_worlds' hb12 hB)
  have HRT_12 : Hid (∀ W, Below w12.heap.size w12 W → RS W aT tl) := fun W hB => HRT_11.out W (two_worlds' hb12 hB)
  have HRU_12 : Hid (∀ W, Below w12.heap.size w12 W → RS W aU tl) := fun W hB => HRU_11.out W (two_worlds' hb12 hB)
  have HR_12 : Hid (∀ W, Below w12.heap.size w12 W → RS W (some ⟨av, 0, none⟩) ss) := fun W hB => HR_11.out W (two_worlds' hb12 hB)
  have HCL_12 : Hid (∀ W, Below w12.heap.size w12 W → ∀ i (h : i < ss.length), W.cell? ⟨av, i, none⟩ = some (.string ss[i])) := fun W hB => HCL_11.out W (two_worlds' hb12 hB)
  clear hb12 B11 HRG_11 HRM_11 HRT_11 HRU_11 HR_11 HCL_11 ho12 hgv
  go_wp2_with fail
  refine (D2 _ (HR_12.out _ (Below.refl _ _))).mono ?_
  intro e w13 hgv
  obtain ⟨aY, cY, rfl, hb13, ho13⟩ := hgv.elim HAM
  have HRY_13 : Hid (∀ W, Below w13.heap.size w13 W → RS W aY al) := fun W hB => (own_RS HAM ho13).below hB
  have B13 := Lib.hid (two_worlds' B12.out hb13)
  have HRG_13 : Hid (∀ W, Below w13.heap.size w13 W → RS W aG gl) := fun W hB => HRG_12.out W (two_worlds' hb13 hB)
  have HRM_13 : Hid (∀ W, Below w13.heap.size w13 W → RS W aM gl) := fun W hB => HRM_12.out W (two_worlds' hb13 hB)
  have HRT_13 : Hid (∀ W, Below w13.heap.size w13 W → RS W aT tl) := fun W hB => HRT_12.out W (two_worlds' hb13 hB)
  have HRU_13 : Hid (∀ W, Below w13.heap.size w13 W → RS W aU tl) := fun W hB => HRU_12.out W (two_worlds' hb13 hB)
  have HR_13 : Hid (∀ W, Below w13.heap.size w13 W → RS W (some ⟨av, 0, none⟩) ss) := fun W hB => HR_12.out W (two_worlds' hb13 hB)
  have HCL_13 : Hid (∀ W, Below w13.heap.size w13 W → ∀ i (h : i < ss.length), W.cell? ⟨av, i, none⟩ = some (.string ss[i])) := fun W hB => HCL_12.out W (two_worlds' hb13 hB)
  have HRX_13 : Hid (∀ W, Below w13.heap.size w13 W → RS W aX al) := fun W hB => HRX_12.out W (two_worlds' hb13 hB)
  clear hb13 B12 HRG_12 HRM_12 HRT_12 HRU_12 HR_12 HCL_12 HRX_12 ho13 hgv D1 D2
  go_wp2_with fail
  refine (f6texts_any _ _ gl gl _ _ _ _ _ HGM HGM (HRG_13.out _ (Below.refl _ _)) (HRM_13.out _ (Below.refl _ _)) (by unfold maxLen; omega)).mono ?_
  rintro e w14 ⟨rfl, hb14⟩
  have B14 := Lib.hid (two_worlds' B13.out hb14)
  have HRG_14 : Hid (∀ W, Below w14.heap.size w14 W → RS W aG gl) := fun W hB => HRG_13.out W (two_worlds' hb14 hB)
  have HRM_14 : Hid (∀ W, Below w14.heap.size w14 W → RS W aM gl) := fun W hB => HRM_13.out W (two_worlds' hb14 hB)
  have HRT_14 : Hid (∀ W, Below w14.heap.size w14 W → RS W aT tl) := fun W hB => HRT_13.out W (two_worlds' hb14 hB)
  have HRU_14 : Hid (∀ W, Below w14.heap.size w14 W → RS W aU tl) := fun W hB => HRU_13.out W (two_worlds' hb14 hB)
  have HR_14 : Hid (∀ W, Below w14.heap.size w14 W → RS W (some ⟨av, 0, none⟩) ss) := fun W hB => HR_13.out W (two_worlds' hb14 hB)
  have HCL_14 : Hid (∀ W, Below w14.heap.size w14 W → ∀ i (h : i < ss.length), W.cell? ⟨av, i, none⟩ = some (.string ss[i])) := fun W hB => HCL_13.out W (two_worlds' hb14 hB)
  have HRX_14 : Hid (∀ W, Below w14.heap.size w14 W → RS W aX al) := fun W hB => HRX_13.out W (two_worlds' hb14 hB)
  have HRY_14 : Hid (∀ W, Below w14.heap.size w14 W → RS W aY al) := fun W hB => HRY_13.out W (two_worlds' hb14 hB)
  clear hb14 B13 HRG_13 HRM_13 HRT_13 HRU_13 HR_13 HCL_13 HRX_13 HRY_13
  go_wp2_with fail
  refine (f6texts_any _ _ tl tl _ _ _ _ _ HTM HTM (HRT_14.out _ (Below.refl _ _)) (HRU_14.out _ (Below.refl _ _)) (by unfold maxLen; omega)).mono ?_
  rintro e w15 ⟨rfl, hb15⟩
  have B15 := Lib.hid (two_worlds' B14.out hb15)
  have HRM_15 : Hid (∀ W, Below w15.heap.size w15 W → RS W aM gl) := fun W hB => HRM_14.out W (two_worlds' hb15 hB)
  have HRT_15 : Hid (∀ W, Below w15.heap.size w15 W → RS W aT tl) := fun W hB => HRT_14.out W (two_worlds' hb15 hB)
  have HRU_15 : Hid (∀ W, Below w15.heap.size w15 W → RS W aU tl) := fun W hB => HRU_14.out W (two_worlds' hb15 hB)
  have HR_15 : Hid (∀ W, Below w15.heap.size w15 W → RS W (some ⟨av, 0, none⟩) ss) := fun W hB => HR_14.out W (two_worlds' hb15 hB)
  have HCL_15 : Hid (∀ W, Below w15.heap.size w15 W → ∀ i (h : i < ss.length), W.cell? ⟨av, i, none⟩ = some (.string ss[i])) := fun W hB => HCL_14.out W (two_worlds' hb15 hB)
  have HRX_15 : Hid (∀ W, Below w15.heap.size w15 W → RS W aX al) := fun W hB => HRX_14.out W (two_worlds' hb15 hB)
  have HRY_15 : Hid (∀ W, Below w15.heap.size w15 W → RS W aY al) := fun W hB => HRY_14.out W (two_worlds' hb15 hB)
  clear hb15 B14 HRM_14 HRT_14 HRU_14 HR_14 HCL_14 HRX_14 HRY_14
  go_wp2_with fail
  refine (f6texts_any _ _ al al _ _ _ _ _ HAM HAM (HRX_15.out _ (Below.refl _ _)) (HRY_15.out _ (Below.refl _ _)) (by unfold maxLen; omega)).mono ?_
  rintro e w16 ⟨rfl, hb16⟩
  have B16 := Lib.hid (two_worlds' B15.out hb16)
  have HRM_16 : Hid (∀ W, Below w16.heap.size w16 W → RS W aM gl) := fun W hB => HRM_15.out W (two_worlds' hb16 hB)
  have HR_16 : Hid (∀ W, Below w16.heap.size w16 W → RS W (some ⟨av, 0, none⟩) ss) := fun W hB => HR_15.out W (two_worlds' hb16 hB)
  have HCL_16 : Hid (∀ W, Below w16.heap.size w16 W → ∀ i (h : i < ss.length), W.cell? ⟨av, i, none⟩ = some (.string ss[i])) := fun W hB => HCL_15.out W (two_worlds' hb16 hB)
  have HRX_16 : Hid (∀ W, Below w16.heap.size w16 W → RS W aX al) := fun W hB => HRX_15.out W (two_worlds' hb16 hB)
  have HRY_16 : Hid (∀ W, Below w16.heap.size w16 W → RS W aY al) := fun W hB => HRY_15.out W (two_worlds' hb16 hB)
  clear hb16 B15 HRM_15 HR_15 HCL_15 HRX_15 HRY_15
  have HBW : Hid (∀ W, Below w16.heap.size w16 W → Below w.heap.size w W) := fun W hB => two_worlds' B16.out hB
  go_upto_region 17 with fail
  go_cut [162] (fun q wx => q = .bool (decide (tc = 0)) ∧ w16 = wx)
  case first => as_aux_lemma =>
    rcases eq_ways tc 0 with ⟨⟨e1, e2⟩, e3⟩ | ⟨⟨e1, e2⟩, e3⟩
    · have HB1 : Hid (decide (tc = 0) = true) := decide_eq_true e3
      clear e3
      go_wp2
      go_meet
      exact ⟨by rw [HB1.out], rfl⟩
    · have HB1 : Hid (decide (tc = 0) = false) := decide_eq_false e3
      clear e3
      go_wp2
      go_meet
      exact ⟨by rw [HB1.out], rfl⟩
  case rest => as_aux_lemma =>
    obtain ⟨rfl, rfl⟩ := hcut
    obtain ⟨b1, hb1⟩ : ∃ b, decide (tc = 0) = b := ⟨_, rfl⟩
    rw [hb1]
    have HB1 := Lib.hid hb1
    clear hb1
    go_upto_if 162 with fail
    go_cut [30] (fun _ wx => w16 = wx)
    case first => as_aux_lemma =>
      cases b1 with
      | false =>
        go_wp2
        go_meet
        trivial
      | true =>
        obtain ⟨d2, d4, e1, e8, htm, h300⟩ := FA.out (of_decide_eq_true HB1.out)
        obtain ⟨dn, rfl⟩ : ∃ dn : Nat, dd = dn := ⟨dd.toNat, by omega⟩
        obtain ⟨en, rfl⟩ : ∃ en : Nat, de = en := ⟨de.toNat, by omega⟩
        rw [Int.toNat_natCast, Int.toNat_natCast] at htm h300
        have HTE := Lib.hid htm
        have hdn4 : dn ≤ 4 := by omega
        have hen8 : en ≤ 8 := by omega
        clear htm h300 FA
        go_wp2
        go_loopw [30, 31] (fun q iv wr => ∃ k : Nat, k ≤ en ∧ iv = .int .i64 (k : Int) ∧ q = .int .i64 ((dn ^ k : Nat) : Int) ∧ wr = w16) (fun _ iv _ => en - (intOf iv).toNat)
        case atStart => exact ⟨0, by omega, rfl, rfl, rfl⟩
        case round =>
          obtain ⟨k, hk, rfl, rfl, rfl⟩ := hrel
          by_cases hlt : k < en
          · have HE := Lib.hid (pow_succ_cast dn k)
            have hb1 := pow_le hdn4 (show k + 1 ≤ 8 by omega)
            have HP1 : Hid (((dn ^ k : Nat) : Int) * (dn : Int) ≤ 65536) := by unfold Hid; rw [HE.out]; omega
            have hp0 : (0 : Int) ≤ ((dn ^ k : Nat) : Int) := by omega
            have hp1 : (0 : Int) ≤ ((dn ^ k : Nat) : Int) * (dn : Int) := Int.mul_nonneg hp0 (by omega)
            have hp2 := HP1.out
            generalize ((dn ^ k : Nat) : Int) = pp at hp0 hp1 hp2 HE HP1
            clear hb1
            go_wp2
            go_roundw
            case rel => exact ⟨k + 1, by omega, by go_num, by rw [← HE.out], trivial⟩
            case measure => simp [intOf]; omega
          · have hke : k = en := by omega
            have hne : ((tm : Int) != ((dn ^ k : Nat) : Int)) = false := by rw [hke, HTE.out]; simp
            generalize ((dn ^ k : Nat) : Int) = pp at hne
            go_wp2
            go_meet
            trivial
    case rest => as_aux_lemma =>
      obtain rfl := hcut
      go_upto_region 25 with fail
      go_cut [176] (fun q wx => q = .bool (decide (mq = 0)) ∧ w16 = wx)
      case first => as_aux_lemma =>
        rcases eq_ways mq 0 with ⟨⟨e1, e2⟩, e3⟩ | ⟨⟨e1, e2⟩, e3⟩
        · have HB1 : Hid (decide (mq = 0) = true) := decide_eq_true e3
          clear e3
          go_wp2
          go_meet
          exact ⟨by rw [HB1.out], rfl⟩
        · have HB1 : Hid (decide (mq = 0) = false) := decide_eq_false e3
          clear e3
          go_wp2
          go_meet
          exact ⟨by rw [HB1.out], rfl⟩
      case rest => as_aux_lemma =>
        obtain ⟨rfl, rfl⟩ := hcut
        obtain ⟨b2, hb2⟩ : ∃ b, decide (mq = 0) = b := ⟨_, rfl⟩
        rw [hb2]
        have HB2 := Lib.hid hb2
        clear hb2
        go_upto_if 176 with fail
        go_cut [32] (fun _ wx => Hid (Below w16.heap.size w16 wx))
        case first => as_aux_lemma =>
          cases b2 with
          | false =>
            go_wp2
            go_meet
            exact Below.refl _ _
          | true =>
            obtain ⟨l2, hl2, hle⟩ := FM.out (of_decide_eq_true HB2.out)
            have G3 := fun W => specGreedy_any ma mb mc W
            rw [hl2] at G3
            obtain ⟨lm, hlm⟩ : ∃ lm, l2.length = lm := ⟨_, rfl⟩
            rw [hlm] at hle
            have hle' : ¬ mm < (lm : Int) := by omega
            have HLM := Lib.hid hlm
            clear hl2 hlm FM
            go_wp2_with fail
            refine (G3 _).mono ?_
            intro e w17 hgv
            obtain ⟨aN, cN, rfl, hb17, ho17⟩ := hgv.elim HLM
            have HB17 := Lib.hid hb17
            clear hgv ho17 hb17
            go_wp2
            go_meet
            exact HB17.out
        case rest => as_aux_lemma =>
          have HW := Lib.hid hcut.out
          clear hcut
          generalize wc = w17 at *
          go_upto_region 29 with fail
          go_cut [193] (fun q wx => q = .bool (decide (ac = 0)) ∧ w17 = wx)
          case first => as_aux_lemma =>
            rcases eq_ways ac 0 with ⟨⟨e1, e2⟩, e3⟩ | ⟨⟨e1, e2⟩, e3⟩
            · have HB1 : Hid (decide (ac = 0) = true) := decide_eq_true e3
              clear e3
              go_wp2
              go_meet
              exact ⟨by rw [HB1.out], rfl⟩
            · have HB1 : Hid (decide (ac = 0) = false) := decide_eq_false e3
              clear e3
              go_wp2
              go_meet
              exact ⟨by rw [HB1.out], rfl⟩
          case rest => as_aux_lemma =>
            obtain ⟨rfl, rfl⟩ := hcut
            obtain ⟨b3, hb3⟩ : ∃ b, decide (ac = 0) = b := ⟨_, rfl⟩
            rw [hb3]
            have HB3 := Lib.hid hb3
            clear hb3
            go_upto_if 193 with fail
            go_cut [34] (fun _ wx => Hid (Below w16.heap.size w16 wx))
            case first => as_aux_lemma =>
              cases b3 with
              | false =>
                go_wp2
                go_meet
                exact HW.out
              | true =>
                obtain ⟨t, hal2, ht8, hfar⟩ := FD.out (of_decide_eq_true HB3.out)
                have ham : am = m + 1 := by rw [← HAM.out, hal2, List.length_append, HN.out]; rfl
                subst ham
                have hpos : 0 < al.length := by rw [HAM.out]; omega
                obtain ⟨bY, oY, rfl, _, _⟩ := (HRY_16.out _ HW.out).addr hpos
                have HCY : Hid (∀ W, Below w16.heap.size w16 W → W.cell? ⟨bY, oY + m, none⟩ = some (.string t)) := fun W hB => by
                  obtain ⟨b', o', e1, _, e2⟩ := (HRY_16.out W hB).addr hpos
                  injection e1 with e1
                  injection e1 with e1 e3 _
                  subst e1 e3
                  have e4 := e2 m (by rw [HAM.out]; omega)
                  rw [e4]
                  congr 2
                  simp only [hal2]
                  rw [List.getElem_append_right (by rw [HN.out]; omega)]
                  simp [HN.out]
                have HFAR := Lib.hid hfar
                have hw1 : IntKind.i64.wrap ((m : Int) + 1 - 1) = (m : Int) := by rw [IntWalk.i64_in _ (by omega)]; omega
                have hw2 : IntKind.i64.wrap (((m + 1 : Nat) : Int) - 1) = (m : Int) := by rw [IntWalk.i64_in _ (by omega)]; omega
                have hm0 : (0 : Int) ≤ (m : Int) := by omega
                have hm1 : (m : Int) < (m : Int) + 1 := by omega
                have hm2 : (m : Int) < ((m + 1 : Nat) : Int) := by omega
                have hm3 : m < m + 1 := by omega
                have hw4 : IntKind.i64.wrap (m : Int) = (m : Int) := IntWalk.i64_in _ (by omega)
                clear hal2 hpos hfar FD
                go_wp2
                go_loopw [34] (fun iv wr => ∃ i : Nat, i ≤ m ∧ iv = .int .i64 (i : Int) ∧ Hid (Below w16.heap.size w16 wr)) (fun iv _ => m - (intOf iv).toNat)
                case atStart => exact ⟨0, by omega, rfl, HW.out⟩
                case round =>
                  obtain ⟨i, hi, rfl, HWR⟩ := hrel
                  by_cases hlt : i < m
                  · have hil : i < ss.length := by rw [HN.out]; exact hlt
                    have x0 := HCL_16.out _ HWR.out i hil
                    have x1 := HCY.out _ HWR.out
                    have hz0 := HSZ.out _ (List.getElem_mem hil)
                    obtain ⟨y, hy, hyd0⟩ := HFAR.out i hil
                    have hyd : ¬ y < sd := by omega
                    generalize ss[i] = t0 at x0 hz0 hy
                    have DD := fun W => implDistance_any t0 t hz0 (by omega) W
                    rw [hy] at DD
                    simp only at DD
                    have hk0 : (0 : Int) ≤ (i : Int) := by omega
                    have hk1 : (i : Int) < (m : Int) := by omega
                    have hav : av < wr.heap.size := World.block_lt_of_cell? wr _ x0
                    have hbv : bY < wr.heap.size := World.block_lt_of_cell? wr _ x1
                    clear hy hyd0
                    go_upto_region 33 with fail
                    go_region_held3 (fun w' => w'.cell? ⟨av, i, none⟩ = some (.string t0) ∧ w'.cell? ⟨bY, oY + m, none⟩ = some (.string t)) (first | exact ⟨x0, x1⟩ | exact ⟨(hb22.cell (p := ⟨av, i, none⟩) hav).trans x0, (hb22.cell (p := ⟨bY, oY + m, none⟩) hbv).trans x1⟩) ((go_at_call 15; refine (DD _).mono ?_; rintro e w22 ⟨rfl, hb22⟩))
                    all_goals
                      have HB22 : Hid (Below w16.heap.size w16 w22) := by first | exact two_worlds' HWR.out hb22 | exact two_worlds' (Below.drew HWR.out) hb22 | exact two_worlds' (Below.drewN' HWR.out _) hb22
                      clear hb22 x0 x1 DD
                      go_wp2
                      go_roundw
                      case rel => exact ⟨i + 1, by omega, by go_num, HB22.out⟩
                      case measure => simp [intOf]; omega
                  · have him : i = m := by omega
                    subst him
                    go_wp2
                    go_meet
                    exact HWR.out
            case rest => as_aux_lemma =>
              have HW3 := Lib.hid hcut.out
              clear hcut HW
              generalize wc = w18 at *
              rcases eq_ways gc 0 with ⟨⟨f1, f2⟩, f3⟩ | ⟨⟨f1, f2⟩, f3⟩
              · have HP := Lib.hid (FG.out f3)
                have hsome := HGS.out f3
                have hgm0 : 0 < gm := by rw [← HGM.out]; exact hsome.1
                have hgm0' : (0 : Int) < (gm : Int) := by omega
                have HG8 := Lib.hid hsome.2
                obtain ⟨bM, oM, rfl, _, _⟩ := (HRM_16.out _ HW3.out).addr hsome.1
                have HCM : Hid (∀ W, Below w16.heap.size w16 W → ∀ i (h : i < gl.length), W.cell? ⟨bM, oM + i, none⟩ = some (.string gl[i])) := fun W hB i h => by
                  obtain ⟨b', o', e1, _, e2⟩ := (HRM_16.out W hB).addr (by omega)
                  injection e1 with e1
                  injection e1 with e1 e3 _
                  subst e1 e3
                  exact e2 i h
                clear hsome f3
                go_wp2
                go_loopw [37] (fun iv wr => ∃ i : Nat, i ≤ gm ∧ iv = .int .i64 (i : Int) ∧ Hid (Below w16.heap.size w16 wr)) (fun iv _ => gm - (intOf iv).toNat)
                case atStart => exact ⟨0, by omega, rfl, HW3.out⟩
                case round =>
                  obtain ⟨i, hi, rfl, HWR⟩ := hrel
                  by_cases hlt : i < gm
                  · have hil : i < gl.length := by rw [HGM.out]; exact hlt
                    have hi0 : (0 : Int) ≤ (i : Int) := by omega
                    have hi1 : (i : Int) < (gm : Int) := by omega
                    go_wp2
                    go_loopw [38] (fun kv wr => ∃ k : Nat, k ≤ i ∧ kv = .int .i64 (k : Int) ∧ Hid (Below w16.heap.size w16 wr)) (fun kv _ => i - (intOf kv).toNat)
                    case atStart => exact ⟨0, by omega, rfl, HWR.out⟩
                    case round =>
                      obtain ⟨k, hk, rfl, HWK⟩ := hrel
                      by_cases hltk : k < i
                      · have x0 := HCM.out _ HWK.out i hil
                        have x1 := HCM.out _ HWK.out k (by omega)
                        have hz0 := HG8.out _ (List.getElem_mem hil)
                        have hz1 := HG8.out _ (List.getElem_mem (l := gl) (n := k) (by omega))
                        obtain ⟨y, hy, hyd0⟩ := HP.out i hil k hltk
                        have hyd : ¬ y < gd := by omega
                        generalize gl[i] = t0 at x0 hz0 hy
                        generalize gl[k]'(by omega) = t1 at x1 hz1 hy
                        have DD := fun W => implDistance_any t0 t1 (by omega) (by omega) W
                        rw [hy] at DD
                        simp only at DD
                        have hk0 : (0 : Int) ≤ (k : Int) := by omega
                        have hk1 : (k : Int) < (i : Int) := by omega
                        have hk2 : (k : Int) < (gm : Int) := by omega
                        have hav : bM < wr.heap.size := World.block_lt_of_cell? wr _ x0
                        clear hy hyd0
                        go_upto_region 44 with fail
                        go_region_held3 (fun w' => w'.cell? ⟨bM, oM + i, none⟩ = some (.string t0) ∧ w'.cell? ⟨bM, oM + k, none⟩ = some (.string t1)) (first | exact ⟨x0, x1⟩ | exact ⟨(hb22.cell (p := ⟨bM, oM + i, none⟩) hav).trans x0, (hb22.cell (p := ⟨bM, oM + k, none⟩) hav).trans x1⟩) ((go_at_call 15; refine (DD _).mono ?_; rintro e w22 ⟨rfl, hb22⟩))
                        all_goals
                          have HB22 : Hid (Below w16.heap.size w16 w22) := by first | exact two_worlds' HWK.out hb22 | exact two_worlds' (Below.drew HWK.out) hb22 | exact two_worlds' (Below.drewN' HWK.out _) hb22
                          clear hb22 x0 x1 DD
                          go_wp2
                          go_roundw
                          case rel => exact ⟨k + 1, by omega, by go_num, HB22.out⟩
                          case measure => simp [intOf]; omega
                      · have hki : k = i := by omega
                        subst hki
                        go_wp2
                        go_roundw
                        case rel => exact ⟨k + 1, by omega, by go_num, HWK.out⟩
                        case measure => simp [intOf]; omega
                  · have him : i = gm := by omega
                    subst him
                    go_wp2
                    go_ret
                    exact ⟨rfl, HBW.out _ HWR.out⟩
              · clear f3
                go_wp2
                go_ret
                exact ⟨rfl, HBW.out _ HW3.out⟩
end Go.Proofs.YtpkkibnpjhlfmaaDoor.fnCodes5
