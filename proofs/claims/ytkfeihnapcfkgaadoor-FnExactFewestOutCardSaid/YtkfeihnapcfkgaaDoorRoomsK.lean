/-
  Guests that can go: the model's l10Can, CanGo, l10Left, IsStuck; the program's IsStuck.
-/
import Derived.Test.YtkfeihnapcfkgaaDoorRoomsG
namespace Go.Proofs.YtkfeihnapcfkgaaDoor
open Go.RowKit

theorem news_oneG (w : World) (z : Value) (e : TypeId) : ∀ j u, [z][j]? = some u → (w.alloc (.cells #[z] e)).cell? ((⟨w.heap.size, 0, none⟩ : Addr).add j) = some u := by
  rintro (_ | j) u h
  · simp at h; subst h; simp [go_sem]
  · simp at h
set_option maxHeartbeats 2000000 in
theorem l10Can_any (bb ob : Nat) (a : Option Addr) (l : List Int) (ts : List TGuest) (n m c d k : Nat) (w : World) (hn : Hid (l.length = n)) (hm : Hid (ts.length = m)) (hl : RI w (some ⟨bb, ob, none⟩) l) (ha : RR 2 cGuest w a ts) (hsn : n ≤ 1048576) (hsm : m ≤ 1048576) (hp : Pl l) (hg : guB n ts = true) (hk : k < m) :
    Calls Tryd.prog 60 #[.slice (some ⟨bb, ob, none⟩) n c, .slice a m d, .int .i64 k] w fun e w' => e = .returned (.bool (canN l ts k)) ∧ Below w.heap.size w w' := by
  have hka : k < ts.length := by rw [hm.out]; exact hk
  have HE : Hid (canN l ts k = canG (freeAt l ts m) ts[k]) := by unfold Hid canN; rw [gsN_at hka, hm.out]
  have FR : Hid (∀ W, Below w.heap.size w W → Calls Tryd.prog 77 #[.slice (some ⟨bb, ob, none⟩) n c, .slice a m d] W (GivesF n (guB n ts) (freeAt l ts m) W)) := fun W h => l10Free_any bb ob a l ts n m c d W hn hm (hl.below h) (ha.below h) hsn hsm hp
  have HFL : Hid ((freeAt l ts m).length = n) := by unfold Hid; rw [freeAt_len]; exact hn.out
  obtain ⟨_, b3, b4⟩ := guB_at hg k hka
  obtain ⟨b, off, rfl, hbl, hc⟩ := ha.at_ k hka
  have x0 := hc 0 _ rfl
  have x1 := hc 1 _ rfl
  simp only [Nat.add_zero] at x0
  have HGU := Lib.hid hg
  clear hc ha hl hg
  generalize ts[k] = t at x0 x1 HE b3 b4
  obtain ⟨t1, t2⟩ := t
  dsimp only at x0 x1 b3 b4
  have hk0 : (0 : Int) ≤ (k : Int) := by omega
  have hk1 : (k : Int) < (m : Int) := by omega
  generalize freeAt l ts m = fr at HE FR HFL
  by_cases h1 : t1 = t2
  · have HR : Hid (canN l ts k = false) := HE.out.trans (canG_rest h1)
    clear HE
    subst h1
    go_enter Tryd.func60, Tryd.ntmps60
    go_wp2_with fail
    go_ret
    exact ⟨ret_bool HR.out.symm, (by repeat (first | exact Below.refl _ _ | refine Below.alloc ?_ (by simp; try omega) _ | refine Below.setCell ?_ (by simp; try omega) _))⟩
  · have hne : (t2 == t1) = false := by simp; omega
    have q1 : (w.alloc (.cells #[.int .i64 t1, .int .i64 t2] 35)).cell? ⟨w.heap.size, 1, none⟩ = some (.int .i64 t2) := by simp [go_sem]
    have HQ1 : Hid (∀ W, Below (w.alloc (.cells #[.int .i64 t1, .int .i64 t2] 35)).heap.size (w.alloc (.cells #[.int .i64 t1, .int .i64 t2] 35)) W → W.cell? ⟨w.heap.size, 1, none⟩ = some (.int .i64 t2)) := fun W h => kept_g h q1
    have HB1 : Hid (Below w.heap.size w (w.alloc (.cells #[.int .i64 t1, .int .i64 t2] 35))) := (by repeat (first | exact Below.refl _ _ | refine Below.alloc ?_ (by simp; try omega) _ | refine Below.setCell ?_ (by simp; try omega) _))
    clear q1
    by_cases h2 : t2 = -1
    · have HR : Hid (canN l ts k = true) := HE.out.trans (canG_out h1 h2)
      clear HE h1
      subst h2
      go_enter Tryd.func60, Tryd.ntmps60
      go_wp2_with (go_at_call 77; refine (FR.out _ HB1.out).mono ?_; rintro e w2 ⟨hb2, v, rfl, hv⟩; have y1 := HQ1.out _ hb2)
      go_ret
      exact ⟨ret_bool HR.out.symm, two_worlds HB1.out hb2⟩
    · obtain ⟨r, rfl⟩ : ∃ r : Nat, t2 = r := ⟨t2.toNat, by omega⟩
      have hr : r < n := by omega
      have hrf : r < fr.length := by rw [HFL.out]; exact hr
      have HR : Hid (canN l ts k = decide (0 < fr[r])) := HE.out.trans (canG_in h1 rfl hrf)
      clear HE h1
      have hne2 : ((r : Int) == -1) = false := by simp
      go_enter Tryd.func60, Tryd.ntmps60
      go_wp2_with (go_at_call 77; refine (FR.out _ HB1.out).mono ?_; rintro e w2 ⟨hb2, v, rfl, hv⟩; have y1 := HQ1.out _ hb2; obtain ⟨g, cap, rfl, ho⟩ := hv HGU.out; have y2 := ownsRow_cell ho r _ (rflat_ints fr r hrf))
      go_ret
      exact ⟨ret_bool HR.out.symm, two_worlds HB1.out hb2⟩

set_option maxHeartbeats 2000000 in
theorem specCanGo_any (w : World) {b0 o0 n0 c0 : Nat} (l0 : List Int) (hn0 : Hid (l0.length = n0)) (h0 : RI w (some ⟨b0, o0, none⟩) l0) (hs0 : n0 ≤ 1048576) (_wf0 : Hid (∀ k ∈ l0, (Lit.int .i64 k).wf = true)) {a1 : Option Addr} {n1 c1 : Nat} (ts1 : List TGuest) (hn1 : Hid (ts1.length = n1)) (h1 : RR 2 cGuest w a1 ts1) (hs1 : n1 ≤ 1048576) (_wf1 : Hid (∀ t ∈ ts1, wfGuest t)) :
    Calls Tryd.prog 26 #[.slice (some ⟨b0, o0, none⟩) n0 c0, .slice a1 n1 c1] w (GivesIs 2 (canOf l0 ts1) w) := by
  have OK := l10Ok_any b0 o0 a1 l0 ts1 n0 n1 c0 c1 w hn0 hn1 h0 h1 hs0 hs1
  have CA : Hid (∀ W, Below w.heap.size w W → Pl l0 → guB n0 ts1 = true → ∀ k : Nat, k < n1 → Calls Tryd.prog 60 #[.slice (some ⟨b0, o0, none⟩) n0 c0, .slice a1 n1 c1, .int .i64 k] W fun e w' => e = .returned (.bool (canN l0 ts1 k)) ∧ Below W.heap.size W w') := fun W h hp hg k hk => l10Can_any b0 o0 a1 l0 ts1 n0 n1 c0 c1 k W hn0 hn1 (h0.below h) (h1.below h) hs0 hs1 hp hg hk
  have HI : Hid (∃ i0 : TypeInfo, Tryd.prog.info? 2 = some i0 ∧ i0.zero = some (.int .i64 0) ∧ i0.size = 1 ∧ i0.bytes = 8) := info_parts info2
  clear h0 h1
  cases hv : roB l0 ts1 with
  | false =>
    rw [hv] at OK
    have HR := Lib.hid (canOf_bad hv)
    clear hv CA
    go_enter Tryd.func26, Tryd.ntmps26
    go_wp2_with (go_at_call 58; refine OK.mono ?_; rintro e w1 ⟨rfl, hb1⟩)
    go_ret2
    exact givesIs_nil HR.out hb1
  | true =>
    rw [hv] at OK
    have HR : Hid (canOf l0 ts1 = (filtN (canN l0 ts1) n1, 0)) := by unfold Hid; rw [canOf_good hv, hn1.out]
    obtain ⟨h4, h2, h3, _⟩ := roB_of hv
    rw [hn0.out] at h3
    rw [hn0.out, hn1.out] at h4
    have HP := Lib.hid h2
    have HG := Lib.hid h3
    clear hv h2 h3
    go_enter Tryd.func26, Tryd.ntmps26
    go_wp2_with (go_at_call 58; refine OK.mono ?_; rintro e w1 ⟨rfl, hb1⟩)
    have HB1 := Lib.hid hb1
    have hw1 := HB1.out.size
    clear hb1 OK
    go_loopw [6, 7] (fun vo iv wr => ∃ (k i cap : Nat) (ao : Option Addr) (l : List Int), k ≤ n1 ∧ i ≤ k ∧ vo = .slice ao i cap ∧ iv = .int .i64 (k : Int) ∧ Hid (Below w.heap.size w wr) ∧ Hid (l = filtN (canN l0 ts1) k) ∧ Hid (l.length = i) ∧ Hid (wr.ownsRow w.heap.size 2 1 (.slice ao i cap) i (l.map (Value.int .i64)))) (fun _ iv _ => n1 - (intOf iv).toNat)
    case atStart => exact ⟨0, 0, 0, _, [], by omega, by omega, rfl, rfl, (by repeat (first | exact HB1.out | refine Below.alloc ?_ (by first | omega | (simp; done) | (simp; omega)) _ | refine Below.setCell ?_ (by first | omega | (simp; done) | (simp; omega)) _)), rfl, rfl, World.ownsRow_made w1 #[] 0 hw1 (by unfold maxLen; omega) rfl⟩
    case round =>
      obtain ⟨k, i, cap, ao, l, hk, hik, rfl, rfl, HBEL, HL, HLEN, HOWN⟩ := hrel
      by_cases hlt : k < n1
      · have CK := CA.out _ HBEL.out HP.out HG.out k hlt
        have HHIT : Hid (canN l0 ts1 k = true → filtN (canN l0 ts1) (k + 1) = filtN (canN l0 ts1) k ++ [(k : Int)]) := fun h => filtN_yes h
        have HMISS : Hid (canN l0 ts1 k = false → filtN (canN l0 ts1) (k + 1) = filtN (canN l0 ts1) k) := fun h => filtN_no h
        have hk0 : (0 : Int) ≤ (k : Int) := by omega
        have hk1 : (k : Int) < (n1 : Int) := by omega
        cases hq : canN l0 ts1 k with
        | true =>
          have HN := Lib.hid (HHIT.out hq)
          rw [hq] at CK
          clear HHIT HMISS hq
          go_wp2_with fail
          refine CK.mono ?_
          rintro e w2 ⟨rfl, hb2⟩
          have HB2 : Hid (Below w.heap.size w w2) := two_worlds HBEL.out hb2
          have HO2 : Hid (w2.ownsRow w.heap.size 2 1 (.slice ao i cap) i (l.map (Value.int .i64))) := ((Row.of HOWN.out).below hb2).1
          have hw2 := HB2.out.size
          have HGE : Hid (∀ q, (Value.slice ao i cap).ownBlock = some q → w.heap.size ≤ q) := fun q hq => (HO2.out.lt q hq).1
          clear hb2 CK
          go_wp2_with (at_builtin; refine wpList_append_lies _ rfl _ _ 24 rfl w.heap.size 2 HI.out.choose (.int .i64 0) 1 8 Tryd.underlying24 HI.out.choose_spec.1 HI.out.choose_spec.2.1 HI.out.choose_spec.2.2.1 HI.out.choose_spec.2.2.2 rfl (by decide) (.slice ao i cap) i (l.map (Value.int .i64)) rfl (HO2.out.alloc _) ⟨w2.heap.size, 0, none⟩ 1 1 [.int .i64 (k : Int)] rfl rfl (news_oneG _ _ _) (by intro u hu; simp at hu; subst hu; rfl) (by omega) (by unfold maxLen; omega) (by omega) (by simp; omega) (w2.heap.size + 1) (by simp) ?_)
          intro g cap' w3 hown1 hgrow hat hlt2
          have B5 : Hid (Below w.heap.size w w3) := (HB2.out.alloc hw2 _).grown hgrow (by simp; omega) HGE.out
          have O1 : Hid (w3.ownsRow w.heap.size 2 1 (.slice (some ⟨g, 0, none⟩) (i + 1) cap') (i + 1) ((l ++ [(k : Int)]).map (Value.int .i64))) := by
            unfold Hid; rw [List.map_append]; exact hown1
          clear hown1 hgrow hat hlt2
          go_wp2
          go_roundw
          case rel => exact ⟨k + 1, i + 1, cap', _, l ++ [(k : Int)], by omega, by omega, rfl, by go_num, B5, by unfold Hid; rw [HN.out, ← HL.out], by unfold Hid; rw [List.length_append, HLEN.out]; rfl, O1⟩
          case measure => simp [intOf]; omega
        | false =>
          have HN := Lib.hid (HMISS.out hq)
          rw [hq] at CK
          clear HHIT HMISS hq
          go_wp2_with fail
          refine CK.mono ?_
          rintro e w2 ⟨rfl, hb2⟩
          have HB2 : Hid (Below w.heap.size w w2) := two_worlds HBEL.out hb2
          have HO2 : Hid (w2.ownsRow w.heap.size 2 1 (.slice ao i cap) i (l.map (Value.int .i64))) := ((Row.of HOWN.out).below hb2).1
          clear hb2 CK
          go_wp2
          go_roundw
          case rel => exact ⟨k + 1, i, cap, ao, l, by omega, by omega, rfl, by go_num, HB2, by unfold Hid; rw [HN.out, ← HL.out], HLEN, HO2⟩
          case measure => simp [intOf]; omega
      · have hkn : k = n1 := by omega
        subst hkn
        go_wp2
        go_ret2
        exact givesIs_of (by rw [HR.out, ← HL.out]) HBEL.out HLEN.out HOWN.out

set_option maxHeartbeats 1000000 in
theorem l10Left_any (a : Option Addr) (ts : List TGuest) (m d : Nat) (w : World) (hm : Hid (ts.length = m)) (ha : RR 2 cGuest w a ts) (hsm : m ≤ 1048576) :
    Calls Tryd.prog 90 #[.slice a m d] w fun e w' => e = .returned (.int .i64 (cntN (lessN ts) m : Nat)) ∧ Below w.heap.size w w' := by
  have HA : Hid (∀ w', Below w.heap.size w w' → RR 2 cGuest w' a ts) := fun w' h => ha.below h
  clear ha
  go_enter Tryd.func90, Tryd.ntmps90
  go_wp2
  go_loopw [3, 4] (fun nv iv wr => ∃ k j : Nat, k ≤ m ∧ j ≤ k ∧ nv = .int .i64 (j : Int) ∧ iv = .int .i64 (k : Int) ∧ Hid (j = cntN (lessN ts) k) ∧ Hid (Below w.heap.size w wr)) (fun _ iv _ => m - (intOf iv).toNat)
  case atStart => exact ⟨0, 0, by omega, by omega, rfl, rfl, rfl, Below.refl _ _⟩
  case round =>
    obtain ⟨k, j, hk, hj, rfl, rfl, HJ, HBEL⟩ := hrel
    by_cases hlt : k < m
    · have hka : k < ts.length := by rw [hm.out]; exact hlt
      have HHIT : Hid (¬ ts[k].1 = ts[k].2 → cntN (lessN ts) (k + 1) = cntN (lessN ts) k + 1) := fun h => by
        have e : lessN ts k = true := by unfold lessN; rw [gsN_at hka]; unfold lessG resG; rw [decide_eq_false h]; rfl
        rw [cntN, if_pos e]
      have HMISS : Hid (ts[k].1 = ts[k].2 → cntN (lessN ts) (k + 1) = cntN (lessN ts) k) := fun h => by
        have e : lessN ts k = false := by unfold lessN; rw [gsN_at hka]; unfold lessG resG; rw [decide_eq_true h]; rfl
        rw [cntN, if_neg (by simp [e])]; rfl
      obtain ⟨b, off, rfl, hbl, hc⟩ := (HA.out _ HBEL.out).at_ k hka
      have x0 := hc 0 _ rfl
      have x1 := hc 1 _ rfl
      simp only [Nat.add_zero] at x0
      clear hc
      generalize ts[k] = t at x0 x1 HHIT HMISS
      obtain ⟨t1, t2⟩ := t
      dsimp only at x0 x1 HHIT HMISS
      have hk0 : (0 : Int) ≤ (k : Int) := by omega
      have hk1 : (k : Int) < (m : Int) := by omega
      rcases eq_ways t1 t2 with ⟨⟨e4, e5⟩, e6⟩ | ⟨⟨e4, e5⟩, e6⟩
      · have HN := Lib.hid (HMISS.out e6)
        clear HHIT HMISS e6
        go_wp2_with fail
        go_quiet (fail)
        go_wp2
        go_roundw
        case rel => exact ⟨k + 1, j, by omega, by omega, rfl, by go_num, by unfold Hid; rw [HN.out]; exact HJ.out, Below.drewN' HBEL.out _⟩
        case measure => simp [intOf]; omega
      · have HN := Lib.hid (HHIT.out e6)
        clear HHIT HMISS e6
        go_wp2_with fail
        go_quiet (fail)
        go_wp2
        go_roundw
        case rel => exact ⟨k + 1, j + 1, by omega, by omega, by go_num, by go_num, by unfold Hid; rw [HN.out, ← HJ.out], Below.drewN' HBEL.out _⟩
        case measure => simp [intOf]; omega
    · have hkm : k = m := by omega
      subst hkm
      go_wp2
      go_ret
      exact ⟨by rw [← HJ.out]; rfl, HBEL.out⟩

theorem stuckN {p q : Nat → Bool} {m : Nat} : (decide ((filtN p m).length = 0) && decide ((0 : Int) < (cntN q m : Nat))) = (!decide (setN q m = 0) && decide (setN p m = 0)) := by
  rw [Bool.and_comm, Bool.eq_iff_iff]
  simp only [Bool.and_eq_true, Bool.not_eq_true', decide_eq_true_eq, decide_eq_false_iff_not]
  rw [filtN_nil, ← cntN_nil (p := q)]
  omega
set_option maxHeartbeats 2000000 in
theorem implIsStuck_any (w : World) {b0 o0 n0 c0 : Nat} (l0 : List Int) (hn0 : Hid (l0.length = n0)) (h0 : RI w (some ⟨b0, o0, none⟩) l0) (hs0 : n0 ≤ 1048576) (_wf0 : Hid (∀ k ∈ l0, (Lit.int .i64 k).wf = true)) {a1 : Option Addr} {n1 c1 : Nat} (ts1 : List TGuest) (hn1 : Hid (ts1.length = n1)) (h1 : RR 2 cGuest w a1 ts1) (hs1 : n1 ≤ 1048576) (_wf1 : Hid (∀ t ∈ ts1, wfGuest t)) :
    Calls Tryd.prog 15 #[.slice (some ⟨b0, o0, none⟩) n0 c0, .slice a1 n1 c1] w fun e w' => e = .returned (.tuple #[.bool (stuckOf l0 ts1).1, .int .i64 (stuckOf l0 ts1).2]) ∧ Below w.heap.size w w' := by
  have OK := checkRooms_any b0 o0 a1 l0 ts1 n0 n1 c0 c1 w hn0 hn1 h0 h1 hs0 hs1
  have RL : Hid (∀ W, Below w.heap.size w W → n1 ≤ 8 → Calls Tryd.prog 47 #[.slice a1 n1 c1] W fun e w' => e = .returned (.int .u64 ((setN (lessN ts1) n1 : Nat) : Int)) ∧ Below W.heap.size W w') := fun W h h8 => restless_any ts1 a1 n1 c1 W hn1 (h1.below h) h8
  have GO : Hid (∀ W, Below w.heap.size w W → 0 < n0 → n1 ≤ 8 → Pl l0 → guB n0 ts1 = true → Calls Tryd.prog 45 #[.slice (some ⟨b0, o0, none⟩) n0 c0, .slice a1 n1 c1] W fun e w' => e = .returned (.int .u64 ((setN (canN l0 ts1) n1 : Nat) : Int)) ∧ Below W.heap.size W w') := fun W h h2 h8 hp hg => goers_any b0 o0 a1 l0 ts1 n0 n1 c0 c1 W hn0 hn1 (h0.below h) (h1.below h) h2 hs0 h8 hp hg
  clear h0 h1
  cases hv : roB l0 ts1 with
  | false =>
    have HC : rcode l0 ts1 = 1 := by unfold rcode; rw [hv]; rfl
    rw [HC] at OK
    have HR := Lib.hid (stuckOf_bad hv)
    clear hv HC
    go_enter Tryd.func15, Tryd.ntmps15
    go_wp2_with (go_at_call 43; refine OK.mono ?_; rintro e w1 ⟨rfl, hb1⟩)
    go_ret2
    exact ⟨by rw [HR.out]; rfl, hb1⟩
  | true =>
    have HC : rcode l0 ts1 = 0 := by unfold rcode; rw [hv]; rfl
    rw [HC] at OK
    have HR : Hid (stuckOf l0 ts1 = (!decide (setN (lessN ts1) n1 = 0) && decide (setN (canN l0 ts1) n1 = 0), 0)) := by unfold Hid; rw [stuckOf_good hv, hn1.out]
    obtain ⟨h4, h2, h3, _⟩ := roB_of hv
    rw [hn0.out] at h3
    rw [hn0.out, hn1.out] at h4
    have HP := Lib.hid h2
    have HG := Lib.hid h3
    have H0 : Hid (0 < n0) := by unfold Hid; omega
    have H8 : Hid (n1 ≤ 8) := by unfold Hid; omega
    have hb1 := setN_lt64 (lessN ts1) (k := n1) (by omega)
    have hb2 := setN_lt64 (canN l0 ts1) (k := n1) (by omega)
    clear hv h2 h3 h4 HC
    generalize setN (lessN ts1) n1 = x at RL HR hb1
    generalize setN (canN l0 ts1) n1 = y at GO HR hb2
    by_cases hx : x = 0
    · have HR2 : Hid (stuckOf l0 ts1 = (false, 0)) := by unfold Hid; rw [HR.out, decide_eq_true hx]; rfl
      subst hx
      go_enter Tryd.func15, Tryd.ntmps15
      go_wp2_with (first | (go_at_call 43; refine OK.mono ?_; rintro e w1 ⟨rfl, hw1⟩) | (go_at_call 47; refine (RL.out _ hw1 H8.out).mono ?_; rintro e w2 ⟨rfl, hw2⟩))
      go_ret2
      exact ⟨by rw [HR2.out]; rfl, two_worlds hw1 hw2⟩
    · have hne : (((x : Nat) : Int) != 0) = true := by simp; omega
      by_cases hy : y = 0
      · have HR2 : Hid (stuckOf l0 ts1 = (true, 0)) := by unfold Hid; rw [HR.out, decide_eq_false hx, decide_eq_true hy]; rfl
        subst hy
        go_enter Tryd.func15, Tryd.ntmps15
        go_wp2_with (first | (go_at_call 43; refine OK.mono ?_; rintro e w1 ⟨rfl, hw1⟩) | (go_at_call 47; refine (RL.out _ hw1 H8.out).mono ?_; rintro e w2 ⟨rfl, hw2⟩) | (go_at_call 45; refine (GO.out _ (two_worlds hw1 hw2) H0.out H8.out HP.out HG.out).mono ?_; rintro e w3 ⟨rfl, hw3⟩))
        go_ret2
        exact ⟨by rw [HR2.out]; rfl, two_worlds (two_worlds hw1 hw2) hw3⟩
      · have HR2 : Hid (stuckOf l0 ts1 = (false, 0)) := by unfold Hid; rw [HR.out, decide_eq_false hx, decide_eq_false hy]; rfl
        have hne2 : (((y : Nat) : Int) == 0) = false := by simp; omega
        go_enter Tryd.func15, Tryd.ntmps15
        go_wp2_with (first | (go_at_call 43; refine OK.mono ?_; rintro e w1 ⟨rfl, hw1⟩) | (go_at_call 47; refine (RL.out _ hw1 H8.out).mono ?_; rintro e w2 ⟨rfl, hw2⟩) | (go_at_call 45; refine (GO.out _ (two_worlds hw1 hw2) H0.out H8.out HP.out HG.out).mono ?_; rintro e w3 ⟨rfl, hw3⟩))
        go_ret2
        exact ⟨by rw [HR2.out]; rfl, two_worlds (two_worlds hw1 hw2) hw3⟩
end Go.Proofs.YtkfeihnapcfkgaaDoor
