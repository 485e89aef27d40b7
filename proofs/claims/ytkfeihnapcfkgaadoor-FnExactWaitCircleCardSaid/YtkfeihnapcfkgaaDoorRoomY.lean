/-
  WaitCircle: the program's walk.
-/
import Derived.Test.YtkfeihnapcfkgaaDoorRoomX
import Derived.Test.YtkfeihnapcfkgaaDoorRoomsB
namespace Go.Proofs.YtkfeihnapcfkgaaDoor
open Go.RowKit

theorem andNotG (x y : Nat) (hx : x < 18446744073709551616) (hy : y < 18446744073709551616) : bits BinOp.andNot IntKind.u64 (x : Int) (y : Int) = ((x &&& (2 ^ 64 - 1 - y) : Nat) : Int) := by
  have h1 : (BitVec.ofInt 64 (x : Int)).toNat = x := by
    rw [BitVec.ofInt_natCast, BitVec.toNat_ofNat]; exact Nat.mod_eq_of_lt (by omega)
  have h3 : (BitVec.ofInt 64 (y : Int)).toNat = y := by
    rw [BitVec.ofInt_natCast, BitVec.toNat_ofNat]; exact Nat.mod_eq_of_lt (by omega)
  show IntKind.u64.wrap ((BitVec.ofInt 64 (x : Int) &&& ~~~(BitVec.ofInt 64 (y : Int))).toNat : Int) = _
  rw [BitVec.toNat_and, BitVec.toNat_not, h1, h3]
  have : x &&& (2 ^ 64 - 1 - y) ≤ x := Nat.and_le_left
  exact wrap64 _ (by omega)
theorem setN_diff (p q : Nat → Bool) {m : Nat} (hm : m ≤ 40) : setN p m &&& (2 ^ 64 - 1 - setN q m) = setN (fun i => p i && !q i) m := by
  have hq := setN_lt64 q hm
  apply Nat.eq_of_testBit_eq
  intro i
  rw [Nat.testBit_and, setN_bit, setN_bit, show 2 ^ 64 - 1 - setN q m = 2 ^ 64 - (setN q m + 1) by omega, Nat.testBit_two_pow_sub_succ (by omega), setN_bit]
  by_cases hi : i < m
  · have : i < 64 := by omega
    simp [hi, this]
  · simp [hi]
theorem setN_both (p q : Nat → Bool) (m : Nat) : setN p m &&& setN q m = setN (fun i => p i && q i) m := by
  apply Nat.eq_of_testBit_eq
  intro i
  rw [Nat.testBit_and, setN_bit, setN_bit, setN_bit]
  cases p i <;> cases q i <;> simp
set_option maxHeartbeats 1000000 in
theorem waiters_any (bb ob : Nat) (a : Option Addr) (l : List Int) (ts : List TGuest) (n m c d : Nat) (w : World) (hn : Hid (l.length = n)) (hm : Hid (ts.length = m)) (hl : RI w (some ⟨bb, ob, none⟩) l) (ha : RR 2 cGuest w a ts) (hn0 : 0 < n) (hsn : n ≤ 1048576) (hm8 : m ≤ 8) (hp : Pl l) (hg : guB n ts = true) :
    Calls Tryd.prog 88 #[.slice (some ⟨bb, ob, none⟩) n c, .slice a m d] w fun e w' => e = .returned (.int .u64 ((setN (waitN l ts) m : Nat) : Int)) ∧ Below w.heap.size w w' := by
  have RE : Hid (∀ W, Below w.heap.size w W → Calls Tryd.prog 47 #[.slice a m d] W fun e w' => e = .returned (.int .u64 ((setN (lessN ts) m : Nat) : Int)) ∧ Below W.heap.size W w') := fun W h => restless_any ts a m d W hm (ha.below h) hm8
  have GO : Hid (∀ W, Below w.heap.size w W → Calls Tryd.prog 45 #[.slice (some ⟨bb, ob, none⟩) n c, .slice a m d] W fun e w' => e = .returned (.int .u64 ((setN (canN l ts) m : Nat) : Int)) ∧ Below W.heap.size W w') := fun W h => goers_any bb ob a l ts n m c d W hn hm (hl.below h) (ha.below h) hn0 hsn hm8 hp hg
  have h1 := setN_lt64 (lessN ts) (k := m) (by omega)
  have h2 := setN_lt64 (canN l ts) (k := m) (by omega)
  have HD := andNotG (setN (lessN ts) m) (setN (canN l ts) m) (by omega) (by omega)
  rw [setN_diff _ _ (by omega)] at HD
  have HE : setN (fun i => lessN ts i && !canN l ts i) m = setN (waitN l ts) m := rfl
  rw [HE] at HD
  clear HE hl ha hp hg
  generalize setN (lessN ts) m = x at RE HD h1
  generalize setN (canN l ts) m = y at GO HD h2
  generalize setN (waitN l ts) m = z at HD
  go_enter Tryd.func88, Tryd.ntmps88
  go_wp2_with (first | (go_at_call 47; refine (RE.out _ (Below.refl _ _)).mono ?_; rintro e w1 ⟨rfl, hb1⟩) | (go_at_call 45; refine (GO.out _ hb1).mono ?_; rintro e w2 ⟨rfl, hb2⟩))
  go_ret
  exact ⟨rfl, two_worlds hb1 hb2⟩

theorem folT_any (ts : List TGuest) (u2 : Int) (c0 : Nat) (w : World) (hc0 : w.cell? ⟨c0, 1, none⟩ = some (.int .i64 u2)) :
    ∀ W, Below w.heap.size w W → ∀ t ∈ ts, Calls Tryd.prog 89 #[.agg #[.int .i64 t.1, .int .i64 t.2], .pointer (some ⟨c0, 0, none⟩)] W fun e w' => e = .returned (.bool (decide (t.1 = u2))) ∧ Below W.heap.size W w' := by
  rintro W hW ⟨t1, t2⟩ -
  have y1 := kept_g hW hc0
  have hlt : c0 < w.heap.size := World.block_lt_of_cell? w _ hc0
  have hws := hW.size
  have hltW : c0 < W.heap.size := by omega
  clear hc0 hW
  dsimp only
  rcases eq_ways t1 u2 with ⟨⟨e4, e5⟩, e6⟩ | ⟨⟨e4, e5⟩, e6⟩
  · have HR : Hid (decide (t1 = u2) = true) := decide_eq_true e6
    clear e6
    go_enter Tryd.func89, Tryd.ntmps89
    go_wp2_with fail
    go_ret
    exact ⟨ret_bool (by rw [HR.out]), (by repeat (first | exact Below.refl _ _ | refine Below.alloc ?_ (by simp; try omega) _ | refine Below.setCell ?_ (by simp; try omega) _))⟩
  · have HR : Hid (decide (t1 = u2) = false) := decide_eq_false e6
    clear e6
    go_enter Tryd.func89, Tryd.ntmps89
    go_wp2_with fail
    go_ret
    exact ⟨ret_bool (by rw [HR.out]), (by repeat (first | exact Below.refl _ _ | refine Below.alloc ?_ (by simp; try omega) _ | refine Below.setCell ?_ (by simp; try omega) _))⟩
set_option maxHeartbeats 2000000 in
theorem whereFol_any (ts : List TGuest) (a : Option Addr) (m d : Nat) (q : TGuest → Bool) (c0 : Nat) (w : World) (hm : Hid (ts.length = m)) (ha : RR 2 cGuest w a ts) (hm8 : m ≤ 8)
    (hf : ∀ W, Below w.heap.size w W → ∀ t ∈ ts, Calls Tryd.prog 89 #[.agg #[.int .i64 t.1, .int .i64 t.2], .pointer (some ⟨c0, 0, none⟩)] W fun e w' => e = .returned (.bool (q t)) ∧ Below W.heap.size W w') :
    Calls Tryd.prog 80 #[.slice a m d, .func (.func 89) #[] #[.pointer (some ⟨c0, 0, none⟩)]] w fun e w' => e = .returned (.int .u64 ((setN (gsN q ts) m : Nat) : Int)) ∧ Below w.heap.size w w' := by
  have HF := Lib.hid hf
  have HA : Hid (∀ w', Below w.heap.size w w' → RR 2 cGuest w' a ts) := fun w' h => ha.below h
  clear hf ha
  go_enter Tryd.func80, Tryd.ntmps80
  go_wp2
  go_loopw [5, 10] (fun sv iv wr => ∃ k : Nat, k ≤ m ∧ sv = .int .u64 ((setN (gsN q ts) k : Nat) : Int) ∧ iv = .int .i64 (k : Int) ∧ Hid (Below w.heap.size w wr)) (fun _ iv _ => m - (intOf iv).toNat)
  case atStart => exact ⟨0, by omega, rfl, rfl, Below.refl _ _⟩
  case round =>
    obtain ⟨k, hk, rfl, rfl, HBEL⟩ := hrel
    by_cases hlt : k < m
    · have hka : k < ts.length := by rw [hm.out]; exact hlt
      have HQ := Lib.hid (gsN_at (q := q) hka)
      have HS8 : setN (gsN q ts) k < 1099511627776 := setN_lt64 _ (by omega)
      have HC := Lib.hid (fun W hW => HF.out W hW _ (List.getElem_mem hka))
      obtain ⟨b, off, rfl, hbl, hc⟩ := (HA.out _ HBEL.out).at_ k hka
      have x0 := hc 0 _ rfl
      have x1 := hc 1 _ rfl
      simp only [Nat.add_zero] at x0
      clear hc
      generalize ts[k] = t at x0 x1 HQ HC
      have hk0 : (0 : Int) ≤ (k : Int) := by omega
      have hk1 : (k : Int) < (m : Int) := by omega
      have hws := HBEL.out.size
      have WI := fun W => with_any (setN (gsN q ts) k) k W HS8 (by omega)
      cases hq : q t with
      | true =>
        have HN := Lib.hid (setN_succ_yes (HQ.out.trans hq))
        rw [hq] at HC
        clear HQ hq HS8
        rw [HN.out] at WI
        generalize setN (gsN q ts) k = x at WI
        go_wp2_with (first | (go_at_call 89; refine (HC.out _ (by repeat (first | exact HBEL.out | refine Below.alloc ?_ (by first | omega | (simp; done) | (simp; omega)) _ | refine Below.setCell ?_ (by first | omega | (simp; done) | (simp; omega)) _))).mono ?_; rintro e w2 ⟨rfl, hb2⟩) | (go_at_call 56; refine (WI _).mono ?_; rintro e w3 ⟨rfl, rfl⟩))
        have HB2 : Hid (Below w.heap.size w w2) := two_worlds (show Below w.heap.size w (wr.alloc _) from (by repeat (first | exact HBEL.out | refine Below.alloc ?_ (by first | omega | (simp; done) | (simp; omega)) _ | refine Below.setCell ?_ (by first | omega | (simp; done) | (simp; omega)) _))) hb2
        clear hb2
        go_roundw
        case rel => exact ⟨k + 1, by omega, rfl, by go_num, HB2⟩
        case measure => simp [intOf]; omega
      | false =>
        have HN := Lib.hid (setN_succ_no (HQ.out.trans hq))
        rw [hq] at HC
        clear HQ hq HS8 WI
        go_wp2_with (go_at_call 89; refine (HC.out _ (by repeat (first | exact HBEL.out | refine Below.alloc ?_ (by first | omega | (simp; done) | (simp; omega)) _ | refine Below.setCell ?_ (by first | omega | (simp; done) | (simp; omega)) _))).mono ?_; rintro e w2 ⟨rfl, hb2⟩)
        have HB2 : Hid (Below w.heap.size w w2) := two_worlds (show Below w.heap.size w (wr.alloc _) from (by repeat (first | exact HBEL.out | refine Below.alloc ?_ (by first | omega | (simp; done) | (simp; omega)) _ | refine Below.setCell ?_ (by first | omega | (simp; done) | (simp; omega)) _))) hb2
        clear hb2
        go_wp2
        go_roundw
        case rel => exact ⟨k + 1, by omega, by rw [HN.out], by go_num, HB2⟩
        case measure => simp [intOf]; omega
    · have hkm : k = m := by omega
      subst hkm
      go_wp2
      go_ret
      exact ⟨rfl, HBEL.out⟩

def folL (rs : List Int) (ts : List TGuest) (k : Nat) : List Int := (List.range k).map (folN rs ts)
theorem folL_succ (rs : List Int) (ts : List TGuest) (k : Nat) : folL rs ts (k + 1) = folL rs ts k ++ [folN rs ts k] := by
  unfold folL
  rw [List.range_succ, List.map_append]; rfl
theorem folL_len (rs : List Int) (ts : List TGuest) (k : Nat) : (folL rs ts k).length = k := by simp [folL]
theorem folL_get (rs : List Int) (ts : List TGuest) (k m : Nat) (h : k < (folL rs ts m).length) : (folL rs ts m)[k] = folN rs ts k := by simp [folL]

set_option maxHeartbeats 4000000 in
theorem followers_any (bb ob : Nat) (a : Option Addr) (l : List Int) (ts : List TGuest) (n m c d : Nat) (w : World) (hn : Hid (l.length = n)) (hm : Hid (ts.length = m)) (hl : RI w (some ⟨bb, ob, none⟩) l) (ha : RR 2 cGuest w a ts) (hn0 : 0 < n) (hsn : n ≤ 1048576) (hm8 : m ≤ 8) (hp : Pl l) (hg : guB n ts = true) (hT : BitTab w) :
    Calls Tryd.prog 65 #[.slice (some ⟨bb, ob, none⟩) n c, .slice a m d] w fun e w' => ∃ ao cap, e = .returned (.slice ao m cap) ∧ Below w.heap.size w w' ∧ w'.ownsRow w.heap.size 2 1 (.slice ao m cap) m ((folL l ts m).map (Value.int .i64)) := by
  have WT := waiters_any bb ob a l ts n m c d w hn hm hl ha hn0 hsn hm8 hp hg
  have HA : Hid (∀ W, Below w.heap.size w W → RR 2 cGuest W a ts) := fun W h => ha.below h
  have HT : Hid (∀ W, Below w.heap.size w W → BitTab W) := fun W h => hT.below h
  have HI : Hid (∃ i0 : TypeInfo, Tryd.prog.info? 2 = some i0 ∧ i0.zero = some (.int .i64 0) ∧ i0.size = 1 ∧ i0.bytes = 8) := info_parts info2
  clear hl ha hp hg hT
  go_enter Tryd.func65, Tryd.ntmps65
  go_wp2_with (go_at_call 88; refine WT.mono ?_; rintro e w1 ⟨rfl, hb1⟩)
  have HB1 := Lib.hid hb1
  clear hb1 WT
  go_loopw [5, 16] (fun vo iv wr => ∃ (k cap : Nat) (ao : Option Addr), k ≤ m ∧ vo = .slice ao k cap ∧ iv = .int .i64 (k : Int) ∧ Hid (Below w.heap.size w wr) ∧ Hid (wr.ownsRow w.heap.size 2 1 (.slice ao k cap) k ((folL l ts k).map (Value.int .i64)))) (fun _ iv _ => m - (intOf iv).toNat)
  case atStart => exact ⟨0, 0, none, by omega, rfl, rfl, HB1, by unfold Hid; simpa [folL] using World.ownsRow_nil w1 w.heap.size 2 1⟩
  case round =>
    obtain ⟨k, cap, ao, hk, rfl, rfl, HBEL, HOWN⟩ := hrel
    by_cases hlt : k < m
    · have hka : k < ts.length := by rw [hm.out]; exact hlt
      have hws := HBEL.out.size
      obtain ⟨b, off, rfl, hbl, hc⟩ := (HA.out _ HBEL.out).at_ k hka
      have x0 := hc 0 _ rfl
      have x1 := hc 1 _ rfl
      simp only [Nat.add_zero] at x0
      clear hc
      have HX : setN (waitN l ts) m &&& setN (gsN (fun t => decide (t.1 = ts[k].2)) ts) m = setN (folP l ts k) m := by
        rw [setN_both]
        refine setN_congr fun i hi => ?_
        unfold folP gsN
        rw [List.getD_eq_getElem?_getD (l := ts) (i := k), List.getElem?_eq_getElem hka, Option.getD_some]
      have HV : folN l ts k = firstN (folP l ts k) m := by unfold folN; rw [hm.out]
      unfold firstN at HV
      have hq1 := setN_lt64 (waitN l ts) (k := m) (by omega)
      have hq2 := setN_lt64 (gsN (fun t => decide (t.1 = ts[k].2)) ts) (k := m) (by omega)
      have hq3 := setN_lt64 (folP l ts k) (k := m) (by omega)
      have HAND := bits_and_u64_nat (setN (waitN l ts) m) (setN (gsN (fun t => decide (t.1 = ts[k].2)) ts) m) (by omega) (by omega)
      rw [HX] at HAND
      have WF : Hid (∀ W, Below w.heap.size w W → ∀ c0 : Nat, W.cell? ⟨c0, 1, none⟩ = some (.int .i64 ts[k].2) → Calls Tryd.prog 80 #[.slice (some ⟨b, off, none⟩) m d, .func (.func 89) #[] #[.pointer (some ⟨c0, 0, none⟩)]] W fun e w' => e = .returned (.int .u64 ((setN (gsN (fun t => decide (t.1 = ts[k].2)) ts) m : Nat) : Int)) ∧ Below W.heap.size W w') := fun W h c0 hc => whereFol_any ts _ m d _ c0 W hm (HA.out W h) hm8 (folT_any ts _ c0 W hc)
      have FI : Hid (∀ W, Below w.heap.size w W → Calls Tryd.prog 82 #[.int .u64 ((setN (folP l ts k) m : Nat) : Int)] W fun e w' => e = .returned (.int .i64 (Lib.ctz 64 (setN (folP l ts k) m))) ∧ W = w') := fun W h => firstG_any _ (by omega) W (HT.out W h)
      have HNX := Lib.hid (folL_succ l ts k)
      have HGE : Hid (∀ q, (Value.slice ao k cap).ownBlock = some q → w.heap.size ≤ q) := fun q hq => (HOWN.out.lt q hq).1
      clear HX
      generalize ts[k] = t at x0 x1 HAND WF hq2
      obtain ⟨t1, t2⟩ := t
      dsimp only at x0 x1 HAND WF hq2
      generalize setN (gsN (fun t => decide (t.1 = t2)) ts) m = y at WF HAND hq2
      generalize setN (waitN l ts) m = x at HAND hq1
      generalize setN (folP l ts k) m = z at HAND HV FI hq3
      have hk0 : (0 : Int) ≤ (k : Int) := by omega
      have hk1 : (k : Int) < (m : Int) := by omega
      have HBW : Hid (Below w.heap.size w (wr.alloc (.cells #[.int .i64 t1, .int .i64 t2] 35))) := HBEL.out.alloc hws _
      have HCW : Hid ((wr.alloc (.cells #[.int .i64 t1, .int .i64 t2] 35)).cell? ⟨wr.heap.size, 1, none⟩ = some (.int .i64 t2)) := by unfold Hid; simp [go_sem]
      by_cases hz : z = 0
      · rw [if_pos hz] at HV
        have HVV := Lib.hid HV
        subst hz
        clear HV FI
        go_wp2_with (first | (go_at_call 80; refine (WF.out _ HBW.out _ HCW.out).mono ?_; rintro e w2 ⟨rfl, hb2⟩; have HB2 := Lib.hid (two_worlds HBW.out hb2); have HO2 := Lib.hid (((Row.of (HOWN.out.alloc _)).below hb2).1); have hw2 := HB2.out.size) | (at_builtin; refine wpList_append_lies _ rfl _ _ 24 rfl w.heap.size 2 HI.out.choose (.int .i64 0) 1 8 Tryd.underlying24 HI.out.choose_spec.1 HI.out.choose_spec.2.1 HI.out.choose_spec.2.2.1 HI.out.choose_spec.2.2.2 rfl (by decide) (.slice ao k cap) k ((folL l ts k).map (Value.int .i64)) rfl (HO2.out.alloc _) ⟨w2.heap.size, 0, none⟩ 1 1 [.int .i64 (-1)] rfl rfl (news_oneG _ _ _) (by intro u hu; simp at hu; subst hu; rfl) (by omega) (by unfold maxLen; omega) (by omega) (by simp; omega) (w2.heap.size + 1) (by simp) ?_))
        intro g cap' w3 hown1 hgrow hat hlt2
        have B5 : Hid (Below w.heap.size w w3) := (HB2.out.alloc hw2 _).grown hgrow (by simp; omega) HGE.out
        have O1 : Hid (w3.ownsRow w.heap.size 2 1 (.slice (some ⟨g, 0, none⟩) (k + 1) cap') (k + 1) ((folL l ts (k + 1)).map (Value.int .i64))) := by
          unfold Hid; rw [HNX.out, HVV.out, List.map_append]; exact hown1
        clear hown1 hgrow hat hlt2
        go_wp2
        go_roundw
        case rel => exact ⟨k + 1, cap', _, by omega, rfl, by go_num, B5, O1⟩
        case measure => simp [intOf]; omega
      · rw [if_neg hz] at HV
        have hne : (((z : Nat) : Int) != 0) = true := by simp; omega
        generalize Lib.ctz 64 z = q at HV FI
        have HVV := Lib.hid HV
        clear HV
        go_wp2_with (first | (go_at_call 80; refine (WF.out _ HBW.out _ HCW.out).mono ?_; rintro e w2 ⟨rfl, hb2⟩; have HB2 := Lib.hid (two_worlds HBW.out hb2); have HO2 := Lib.hid (((Row.of (HOWN.out.alloc _)).below hb2).1); have hw2 := HB2.out.size) | (go_at_call 82; refine (FI.out _ HB2.out).mono ?_; rintro e w6 ⟨rfl, rfl⟩) | (at_builtin; refine wpList_append_lies _ rfl _ _ 24 rfl w.heap.size 2 HI.out.choose (.int .i64 0) 1 8 Tryd.underlying24 HI.out.choose_spec.1 HI.out.choose_spec.2.1 HI.out.choose_spec.2.2.1 HI.out.choose_spec.2.2.2 rfl (by decide) (.slice ao k cap) k ((folL l ts k).map (Value.int .i64)) rfl (HO2.out.alloc _) ⟨w2.heap.size, 0, none⟩ 1 1 [.int .i64 (q : Int)] rfl rfl (news_oneG _ _ _) (by intro u hu; simp at hu; subst hu; rfl) (by omega) (by unfold maxLen; omega) (by omega) (by simp; omega) (w2.heap.size + 1) (by simp) ?_))
        intro g cap' w3 hown1 hgrow hat hlt2
        have B5 : Hid (Below w.heap.size w w3) := (HB2.out.alloc hw2 _).grown hgrow (by simp; omega) HGE.out
        have O1 : Hid (w3.ownsRow w.heap.size 2 1 (.slice (some ⟨g, 0, none⟩) (k + 1) cap') (k + 1) ((folL l ts (k + 1)).map (Value.int .i64))) := by
          unfold Hid; rw [HNX.out, HVV.out, List.map_append]; exact hown1
        clear hown1 hgrow hat hlt2
        go_wp2
        go_roundw
        case rel => exact ⟨k + 1, cap', _, by omega, rfl, by go_num, B5, O1⟩
        case measure => simp [intOf]; omega
    · have hkm : k = m := by omega
      subst hkm
      go_wp2
      go_ret
      exact ⟨ao, cap, rfl, HBEL.out, HOWN.out⟩
end Go.Proofs.YtkfeihnapcfkgaaDoor
