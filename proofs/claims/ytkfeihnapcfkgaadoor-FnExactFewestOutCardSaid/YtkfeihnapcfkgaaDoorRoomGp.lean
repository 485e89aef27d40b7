/-
  GoOrder: the program's firstToGo, firstOrder, GoOrder.
-/
import Derived.Test.YtkfeihnapcfkgaaDoorRoomGo
import Derived.Test.YtkfeihnapcfkgaaDoorRoomX
namespace Go.Proofs.YtkfeihnapcfkgaaDoor
open Go.RowKit Go.Maps Go.ChangeShapes

def GoersT (wb : World) (xb mb m : Nat) (v0 v1 : Value) (C : Nat → Nat → Bool) : Prop :=
  ∀ (s : Nat) (w : World), s < 2 ^ m → ExcAt wb xb mb v0 v1 w → Calls Tryd.prog 86 #[.pointer (some ⟨xb, 0, none⟩), .int .u64 (s : Int)] w fun e w' => e = .returned (.int .u64 ((setN (C s) m : Nat) : Int)) ∧ Below w.heap.size w w'

set_option maxRecDepth 100000 in
set_option maxHeartbeats 4000000 in
theorem firstToGo_any (tol : Nat) (wb : World) (xb mb m q s : Nat) (v0 v1 : Value) (l : List Int) (ts : List TGuest) (w : World) (hm8 : m ≤ 8) (hTS : Hid (ts.length = m)) (hB : BitTab wb)
    (hT : Told tol wb xb mb m v0 v1 (mostS l ts)) (hG : GoersT wb xb mb m v0 v1 (canS l ts)) (hx : ExcAt wb xb mb v0 v1 w) (hmem : MemoG Tryd.prog KeyG mb q (mostS l ts) w) (hq : q + 16 * tol ≤ 1000000000000000) (hs : s < 2 ^ m) (hpos : 0 < mostS l ts s) :
    Calls Tryd.prog 85 #[.pointer (some ⟨xb, 0, none⟩), .int .u64 (s : Int)] w fun e w' => e = .returned (.int .i64 (firstK l ts s : Nat)) ∧ Turned mb (mb + 1) w w' ∧ MemoG Tryd.prog KeyG mb (q + 16 * tol) (mostS l ts) w' := by
  have HSZ := hx.size
  have HLT := hx.lt
  obtain ⟨W0, hW0⟩ : ∃ W0, W0 = (w.alloc (.cells #[.pointer (some ⟨xb, 0, none⟩)] 63)).alloc (.cells #[.int .u64 (s : Int)] 59) := ⟨_, rfl⟩
  have hb0 : Below w.heap.size w W0 := by rw [hW0]; exact ((Below.refl _ _).alloc (Nat.le_refl _) _).alloc (by simp) _
  have y1 : W0.cell? ⟨w.heap.size, 0, none⟩ = some (.pointer (some ⟨xb, 0, none⟩)) := by rw [hW0]; simp [go_sem]
  have y2 : W0.cell? ⟨w.heap.size + 1, 0, none⟩ = some (.int .u64 (s : Int)) := by rw [hW0]; simp [go_sem]
  have hx0 := hx.below hb0
  have GA := hG s W0 hs hx0
  have ME : Hid (∀ W, Below w.heap.size w W → Calls Tryd.prog 46 #[.int .u64 ((setN (canS l ts s) m : Nat) : Int)] W fun e w' => Below W.heap.size W w' ∧ ∃ ao cap, e = .returned (.slice ao (filtN (canS l ts s) m).length cap) ∧ w'.ownsRow W.heap.size 2 1 (.slice ao (filtN (canS l ts s) m).length cap) (filtN (canS l ts s) m).length ((filtN (canS l ts s) m).map (Value.int .i64))) := fun W h => members_any _ m W (by omega) (hB.below (two_worlds hx.bel h))
  rw [filtN_K] at ME
  simp only [List.length_map] at ME
  have IX : Hid (∀ (W : World) (a : Option Addr) (n cap : Nat), Below W0.heap.size W0 W → (∀ W', Turned mb (mb + 1) W W' → RI W' a ((filtK (canS l ts s) m).map (fun (k : Nat) => (k : Int)))) → Hid ((filtK (canS l ts s) m).length = n) →
      Calls Tryd.prog 99 #[.slice a n cap, .func (.func 100) #[] #[.pointer (some ⟨w.heap.size, 0, none⟩), .pointer (some ⟨w.heap.size + 1, 0, none⟩)]] W fun e w' => (∃ j : Nat, j < n ∧ e = .returned (.int .i64 (j : Int)) ∧ Hid (∀ h : j < (filtK (canS l ts s) m).length, (filtK (canS l ts s) m)[j] = firstK l ts s)) ∧ Turned mb (mb + 1) W w' ∧ MemoG Tryd.prog KeyG mb (q + 16 * tol) (mostS l ts) w') := fun W a n cap hW hr hn =>
    indexGood_any tol wb xb mb m q w.heap.size (w.heap.size + 1) s n cap a v0 v1 l ts W hm8 hTS hT (hx0.below hW) ((hmem.below hb0).below hW) hq hs (kept_g hW y1) (kept_g hW y2) (by omega) (by omega) hr hn hpos
  have HB0 := Lib.hid hb0
  have HY := Lib.hid (And.intro y1 y2)
  have hsz0 : W0.heap.size = w.heap.size + 1 + 1 := by rw [hW0]; simp
  clear hT hG hx hx0 hmem hq hs hpos hb0 hB
  generalize hks : filtK (canS l ts s) m = ks at ME IX
  clear hks
  generalize setN (canS l ts s) m = cx at GA ME
  subst hW0
  go_enter Tryd.func85, Tryd.ntmps85
  go_wp2_with (first | (go_at_call 86; refine GA.mono ?_; rintro e w1 ⟨rfl, hb1⟩) | (go_at_call 46; refine (ME.out _ (two_worlds HB0.out hb1)).mono ?_; rintro e w2 ⟨hb2, ao, cap, rfl, ho2⟩))
  have HB2 := Lib.hid (two_worlds hb1 hb2)
  have hs1 := hb1.size
  have HROW := Lib.hid (Row.of ho2)
  have HB02 := Lib.hid (two_worlds HB0.out HB2.out)
  clear hb2 ho2 GA ME
  obtain ⟨cl, hcl⟩ : ∃ cl, ks.length = cl := ⟨_, rfl⟩
  rw [hcl] at HROW ⊢
  have HCL := Lib.hid hcl
  clear hcl
  have hlo : mb + 1 ≤ w1.heap.size := by omega
  have HRI : Hid (∀ W', Turned mb (mb + 1) w2 W' → RI W' ao (ks.map (fun (k : Nat) => (k : Int)))) := fun W' h => rowI_RI (ns := ks.map (fun (k : Nat) => (k : Int))) (by unfold Hid; rw [List.length_map]; exact HCL.out) (HROW.out.turned h (.inr hlo)).1
  go_wp2_with fail
  refine (IX.out _ ao cl cap HB2.out HRI.out HCL).mono ?_
  rintro e w3 ⟨⟨j, hj, rfl, HJ⟩, ht3, hm3⟩
  have hjk : j < ks.length := Nat.lt_of_lt_of_eq hj HCL.out.symm
  obtain ⟨bm, om, he, _, xm⟩ := (HRI.out _ ht3).at_ j (by simpa using hjk)
  rw [List.getElem_map, HJ.out hjk] at xm
  subst he
  have HTU : Hid (Turned mb (mb + 1) w w3) := (Turned.of HB02.out).trans ht3
  have hj0 : (0 : Int) ≤ (j : Int) := by omega
  have hj1 : (j : Int) < (cl : Int) := by omega
  go_wp2_with fail
  go_ret
  exact ⟨rfl, HTU.out, hm3⟩

theorem Turned.more {a c : Nat} {w w1 w2 : World} (h : Turned a c w w1) (hb : Below w.heap.size w1 w2) : Turned a c w w2 :=
  ⟨hb.os.trans h.os, hb.tape.trans h.tape, hb.output.trans h.output, Nat.le_trans h.size hb.size, fun k hk hd => (hb.block k hk).trans (h.block k hk hd)⟩
theorem MemoG.kept {P : Program} {k : TypeId} {b n : Nat} {M : Nat → Nat} {w w' : World} {row : Option Nat} (h : MemoG P k b n M w) (hg : w.grownBy w' row) (hne : some b ≠ row) : MemoG P k b n M w' := let ⟨D, h1, h2⟩ := h; ⟨D, h1.kept hg hne, h2⟩

set_option maxRecDepth 100000 in
set_option maxHeartbeats 4000000 in
theorem firstOrder_any (tol : Nat) (wb : World) (xb mb m q : Nat) (v0 v1 : Value) (l : List Int) (ts : List TGuest) (w : World) (hm8 : m ≤ 8) (hTS : Hid (ts.length = m)) (hB : BitTab wb)
    (hT : Told tol wb xb mb m v0 v1 (mostS l ts)) (hG : GoersT wb xb mb m v0 v1 (canS l ts)) (hx : ExcAt wb xb mb v0 v1 w) (hmem : MemoG Tryd.prog KeyG mb q (mostS l ts) w) (hq : q + 200 * tol ≤ 1000000000000000) :
    Calls Tryd.prog 50 #[.pointer (some ⟨xb, 0, none⟩)] w fun e w' => ∃ v, e = .returned v ∧ Turned mb (mb + 1) w w' ∧ w'.ownsRow w.heap.size 2 1 v (ordS l ts 0).length ((ordS l ts 0).map (Value.int .i64)) := by
  have HSZ := hx.size
  have HLT := hx.lt
  have MA : Hid (∀ (W : World) (s q2 : Nat), Turned mb (mb + 1) w W → s < 2 ^ m → MemoG Tryd.prog KeyG mb q2 (mostS l ts) W → q2 + tol ≤ 1000000000000000 → Calls Tryd.prog 51 #[.pointer (some ⟨xb, 0, none⟩), .int .u64 (s : Int)] W fun e w' => e = .returned (.int .i64 (mostS l ts s : Nat)) ∧ Turned mb (mb + 1) W w' ∧ MemoG Tryd.prog KeyG mb (q2 + tol) (mostS l ts) w') := fun W s q2 h hs hme hq2 => hT s W q2 hs hq2 (hx.turned h) hme
  have FT : Hid (∀ (W : World) (s q2 : Nat), Turned mb (mb + 1) w W → s < 2 ^ m → MemoG Tryd.prog KeyG mb q2 (mostS l ts) W → q2 + 16 * tol ≤ 1000000000000000 → 0 < mostS l ts s → Calls Tryd.prog 85 #[.pointer (some ⟨xb, 0, none⟩), .int .u64 (s : Int)] W fun e w' => e = .returned (.int .i64 (firstK l ts s : Nat)) ∧ Turned mb (mb + 1) W w' ∧ MemoG Tryd.prog KeyG mb (q2 + 16 * tol) (mostS l ts) w') := fun W s q2 h hs hme hq2 hp => firstToGo_any tol wb xb mb m q2 s v0 v1 l ts W hm8 hTS hB hT hG (hx.turned h) hme hq2 hs hp
  have HI : Hid (∃ i0 : TypeInfo, Tryd.prog.info? 2 = some i0 ∧ i0.zero = some (.int .i64 0) ∧ i0.size = 1 ∧ i0.bytes = 8) := info_parts info2
  have HMEM := Lib.hid hmem
  have HQ := Lib.hid hq
  have HM0 : mostS l ts 0 ≤ 8 := by have := mostS_le l ts 0; rw [hTS.out] at this; omega
  obtain ⟨T17, hT17⟩ : ∃ T17, T17 = tol + 16 * tol := ⟨_, rfl⟩
  have h2m : 2 ^ m ≤ 256 := Nat.le_trans (Nat.pow_le_pow_right (by decide) hm8) (by decide)
  clear hT hG hx hmem hq hB
  go_enter Tryd.func50, Tryd.ntmps50
  go_wp2_with fail
  go_loopw [3, 4] (fun ov sv wr => ∃ (c cap s : Nat) (ao : Option Addr) (out : List Int), ov = .slice ao c cap ∧ sv = .int .u64 (s : Int) ∧ s < 2 ^ m ∧ Hid (Turned mb (mb + 1) w wr) ∧ Hid (MemoG Tryd.prog KeyG mb (q + c * T17) (mostS l ts) wr) ∧ Hid (out.length = c) ∧ Hid (wr.ownsRow w.heap.size 2 1 (.slice ao c cap) c (out.map (Value.int .i64))) ∧ Hid (ordS l ts 0 = out ++ ordS l ts s) ∧ Hid (c + mostS l ts s = mostS l ts 0)) (fun ov _ _ => 8 - slLen ov)
  case atStart => exact ⟨0, 0, 0, none, [], rfl, rfl, Nat.two_pow_pos _, Turned.refl _ _ _, by unfold Hid; simpa using HMEM.out, rfl, World.ownsRow_nil _ _ _ _, rfl, by unfold Hid; omega⟩
  case round =>
    obtain ⟨c, cap, s, ao, out, rfl, rfl, hs, HTU, HME, HLEN, HOWN, HORD, HCNT⟩ := hrel
    have hcn := HCNT.out
    have hq0 := HQ.out
    have hcT : c * T17 ≤ 8 * T17 := Nat.mul_le_mul_right _ (by omega)
    have MI := MA.out wr s _ HTU.out hs HME.out (by omega)
    by_cases hz : mostS l ts s = 0
    · have HE : Hid (ordS l ts 0 = out) := by unfold Hid; rw [HORD.out, ordS_none hz, List.append_nil]
      rw [hz] at MI
      clear hcn hq0 hcT hz HCNT
      go_wp2_with (go_at_call 51; refine MI.mono ?_; rintro e w2 ⟨rfl, ht2, hm2⟩)
      go_ret
      exact ⟨_, rfl, HTU.out.trans ht2, by rw [HE.out, HLEN.out]; exact ((Row.of HOWN.out).turned ht2 (.inr (by omega))).1⟩
    · have FI : Hid (∀ (W : World), Turned mb (mb + 1) w W → MemoG Tryd.prog KeyG mb (q + c * T17 + tol) (mostS l ts) W → Calls Tryd.prog 85 #[.pointer (some ⟨xb, 0, none⟩), .int .u64 (s : Int)] W fun e w' => e = .returned (.int .i64 (firstK l ts s : Nat)) ∧ Turned mb (mb + 1) W w' ∧ MemoG Tryd.prog KeyG mb (q + c * T17 + tol + 16 * tol) (mostS l ts) w') := fun W h hme => FT.out W s _ h hs hme (by omega) (by omega)
      obtain ⟨hk1, hk2, _⟩ := firstK_good (rs := l) (ts := ts) (s := s) (by rw [hTS.out]; exact hm8) (by omega)
      rw [hTS.out] at hk1
      have hgd : 1 + mostS l ts (s ||| 2 ^ firstK l ts s) = mostS l ts s := by
        unfold goodP at hk2
        rw [Bool.and_eq_true] at hk2
        exact of_decide_eq_true hk2.2
      have hnx := ordS_next (rs := l) (ts := ts) (s := s) (by rw [hTS.out]; exact hm8) (by omega)
      have HORD2 : Hid (ordS l ts 0 = (out ++ [(firstK l ts s : Int)]) ++ ordS l ts (s ||| 2 ^ firstK l ts s)) := by unfold Hid; rw [HORD.out, hnx, List.append_assoc]; rfl
      have HCNT2 : Hid (c + 1 + mostS l ts (s ||| 2 ^ firstK l ts s) = mostS l ts 0) := by unfold Hid; omega
      have hsm : (c + 1) * T17 = c * T17 + T17 := Nat.succ_mul c T17
      have hqe : q + c * T17 + tol + 16 * tol = q + (c + 1) * T17 := by omega
      rw [hqe] at FI
      have WI := fun W => with_any s (firstK l ts s) W (by omega) (by omega)
      have hs2 := or_lt hs hk1
      have hc8 : c < 8 := by omega
      have hzp : (0 : Int) < ((mostS l ts s : Nat) : Int) := by omega
      clear hcn hq0 hcT hz hk2 hgd hnx hqe hsm HCNT HORD
      generalize mostS l ts s = z at MI hzp
      generalize firstK l ts s = k at FI WI HORD2 HCNT2 hs2 hk1
      generalize hs3 : s ||| 2 ^ k = s3 at WI HORD2 HCNT2 hs2
      clear hs3
      go_wp2_with (first | (go_at_call 51; refine MI.mono ?_; rintro e w2 ⟨rfl, ht2, hm2⟩) | (go_at_call 85; refine (FI.out _ (HTU.out.trans ht2) hm2).mono ?_; rintro e w3 ⟨rfl, ht3, hm3⟩; have HT3 : Hid (Turned mb (mb + 1) w w3) := (HTU.out.trans ht2).trans ht3; have HM3 := Lib.hid hm3; have HO3 := Lib.hid ((Row.of ((Row.of HOWN.out).turned ht2 (.inr (by omega))).1).turned ht3 (.inr (by omega))).1; have hw3 := HT3.out.size; have HGE : Hid (∀ q, (Value.slice ao c cap).ownBlock = some q → w.heap.size ≤ q) := fun q hq => (HO3.out.lt q hq).1; clear ht2 hm2 ht3 hm3) | (at_builtin; refine wpList_append_lies _ rfl _ _ 24 rfl w.heap.size 2 HI.out.choose (.int .i64 0) 1 8 Tryd.underlying24 HI.out.choose_spec.1 HI.out.choose_spec.2.1 HI.out.choose_spec.2.2.1 HI.out.choose_spec.2.2.2 rfl (by decide) (.slice ao c cap) c (out.map (Value.int .i64)) rfl (HO3.out.alloc _) ⟨w3.heap.size, 0, none⟩ 1 1 [.int .i64 (k : Int)] rfl rfl (news_oneG _ _ _) (by intro u hu; simp at hu; subst hu; rfl) (by omega) (by unfold maxLen; omega) (by omega) (by simp; omega) (w3.heap.size + 1) (by simp) ?_))
      intro g cap' w5 hown1 hgrow hat hlt2
      have B35 : Below w.heap.size w3 w5 := ((Below.refl _ _).alloc hw3 _ : Below w.heap.size w3 (w3.alloc (.cells #[.int .i64 (k : Int)] 2))).grown hgrow (by simp; omega) HGE.out
      have HT5 : Hid (Turned mb (mb + 1) w w5) := HT3.out.more B35
      have HM5 : Hid (MemoG Tryd.prog KeyG mb (q + (c + 1) * T17) (mostS l ts) w5) := (HM3.out.below ((Below.refl _ _).alloc (Nat.le_refl _) _)).kept hgrow (fun e => by have := HGE.out mb e.symm; omega)
      have HO5 := Lib.hid hown1
      clear hown1 hgrow hat hlt2 B35
      go_wp2_with (go_at_call 56; refine (WI _).mono ?_; rintro e w' ⟨rfl, rfl⟩)
      go_roundw
      case rel => exact ⟨c + 1, cap', s3, _, out ++ [(k : Int)], rfl, rfl, hs2, HT5, HM5, by unfold Hid; rw [List.length_append, HLEN.out]; rfl, by unfold Hid; rw [List.map_append]; exact HO5.out, HORD2, HCNT2⟩
      case measure => simp [slLen]; omega

set_option maxRecDepth 100000 in
set_option maxHeartbeats 4000000 in
theorem implGoOrder_any (w : World) {b0 o0 n0 c0 : Nat} (l0 : List Int) (hn0 : Hid (l0.length = n0)) (h0 : RI w (some ⟨b0, o0, none⟩) l0) (hs0 : n0 ≤ 1048576) (_wf0 : Hid (∀ k ∈ l0, (Lit.int .i64 k).wf = true)) {b1 o1 n1 c1 : Nat} (ts1 : List TGuest) (hn1 : Hid (ts1.length = n1)) (h1 : RR 2 cGuest w (some ⟨b1, o1, none⟩) ts1) (hs1 : n1 ≤ 1048576) (_wf1 : Hid (∀ t ∈ ts1, wfGuest t)) (hT : BitTab w) :
    Calls Tryd.prog 16 #[.slice (some ⟨b0, o0, none⟩) n0 c0, .slice (some ⟨b1, o1, none⟩) n1 c1] w (GivesIs 2 (orderOf l0 ts1) w) := by
  have OK := checkRooms_any b0 o0 (some ⟨b1, o1, none⟩) l0 ts1 n0 n1 c0 c1 w hn0 hn1 h0 h1 hs0 hs1
  cases hv : roB l0 ts1 with
  | false =>
    have HC : rcode l0 ts1 = 1 := by unfold rcode; rw [hv]; rfl
    rw [HC] at OK
    have HR := Lib.hid (orderOf_bad hv)
    clear hv HC h0 h1 hT
    go_enter Tryd.func16, Tryd.ntmps16
    go_wp2_with (go_at_call 43; refine OK.mono ?_; rintro e w1 ⟨rfl, hb1⟩)
    go_ret2
    exact givesIs_nil HR.out hb1
  | true =>
    have HC : rcode l0 ts1 = 0 := by unfold rcode; rw [hv]; rfl
    rw [HC] at OK
    have HST : Hid (okS l0 ts1 0 = false → orderOf l0 ts1 = ([], 10)) := fun h => orderOf_stuck hv h
    have HGD : Hid (okS l0 ts1 0 = true → orderOf l0 ts1 = (ordS l0 ts1 0, 0)) := fun h => orderOf_good hv h
    obtain ⟨h4, h2, h3, _⟩ := roB_of hv
    rw [hn0.out] at h3
    rw [hn0.out, hn1.out] at h4
    obtain ⟨tol, htol⟩ : ∃ tol : Nat, tol = 9 ^ 8 := ⟨_, rfl⟩
    have hq1 : 0 + tol ≤ 1000000000000000 := by rw [htol]; decide
    have hq2 : 0 + tol + 200 * tol ≤ 1000000000000000 := by rw [htol]; decide
    have TD : ∀ W, Below w.heap.size w W → Told tol W (W.heap.size + 1) W.heap.size n1 (.slice (some ⟨b0, o0, none⟩) n0 c0) (.slice (some ⟨b1, o1, none⟩) n1 c1) (mostS l0 ts1) := fun W hW s W2 q hs hq hx hme => by
      rw [htol] at hq ⊢
      exact mostAfter_any W (W.heap.size + 1) W.heap.size b0 o0 b1 o1 n0 n1 c0 c1 l0 ts1 hn0 hn1 (h0.below hW) (h1.below hW) (by omega) hs0 h4.2.2 h2 h3 (hT.below hW) 8 s W2 q hs (Nat.le_trans (remS_le _ _) h4.2.2) hq hx hme
    have GT : ∀ W, Below w.heap.size w W → GoersT W (W.heap.size + 1) W.heap.size n1 (.slice (some ⟨b0, o0, none⟩) n0 c0) (.slice (some ⟨b1, o1, none⟩) n1 c1) (canS l0 ts1) := fun W hW s W2 hs hx =>
      goersAfter_any W (W.heap.size + 1) W.heap.size b0 o0 b1 o1 n0 n1 c0 c1 s l0 ts1 W2 hx hn0 hn1 (h0.below hW) (h1.below hW) (by omega) hs0 h4.2.2 h2 h3 (hT.below hW) hs
    have CA : Hid (∀ W, Below w.heap.size w W → Calls Tryd.prog 49 #[.pointer (some ⟨W.heap.size + 1, 0, none⟩)] ((W.alloc (.map #[] 0)).alloc (.cells #[.slice (some ⟨b0, o0, none⟩) n0 c0, .slice (some ⟨b1, o1, none⟩) n1 c1, .map (some W.heap.size)] 97)) fun e w' => e = .returned (.bool (okS l0 ts1 0)) ∧ Turned W.heap.size (W.heap.size + 1) ((W.alloc (.map #[] 0)).alloc (.cells #[.slice (some ⟨b0, o0, none⟩) n0 c0, .slice (some ⟨b1, o1, none⟩) n1 c1, .map (some W.heap.size)] 97)) w' ∧ MemoG Tryd.prog KeyG W.heap.size (0 + tol) (mostS l0 ts1) w') := fun W hW =>
      canAllGo_any tol W (W.heap.size + 1) W.heap.size b1 o1 n1 c1 0 _ l0 ts1 _ hn1 (h1.below hW) h4.2.2 (TD W hW) (exc_new _ _ W) (memo_new _ _ _ W) hq1
    have FO : Hid (∀ W, Below w.heap.size w W → ∀ w', Turned W.heap.size (W.heap.size + 1) ((W.alloc (.map #[] 0)).alloc (.cells #[.slice (some ⟨b0, o0, none⟩) n0 c0, .slice (some ⟨b1, o1, none⟩) n1 c1, .map (some W.heap.size)] 97)) w' → MemoG Tryd.prog KeyG W.heap.size (0 + tol) (mostS l0 ts1) w' → Calls Tryd.prog 50 #[.pointer (some ⟨W.heap.size + 1, 0, none⟩)] w' fun e w2 => ∃ v, e = .returned v ∧ Turned W.heap.size (W.heap.size + 1) w' w2 ∧ w2.ownsRow w'.heap.size 2 1 v (ordS l0 ts1 0).length ((ordS l0 ts1 0).map (Value.int .i64))) := fun W hW w' ht hme =>
      firstOrder_any tol W (W.heap.size + 1) W.heap.size n1 (0 + tol) _ _ l0 ts1 w' h4.2.2 hn1 (hT.below hW) (TD W hW) (GT W hW) ((exc_new _ _ W).turned ht) hme hq2
    have HNE := fun W => newExchange_any (some ⟨b0, o0, none⟩) (some ⟨b1, o1, none⟩) n0 c0 n1 c1 W
    clear hv HC h0 h1 hT h2 h3 TD GT hq1 hq2 htol
    cases hok : okS l0 ts1 0 with
    | false =>
      have HR := Lib.hid (HST.out hok)
      rw [hok] at CA
      clear HST HGD hok
      go_enter Tryd.func16, Tryd.ntmps16
      go_wp2_with (first | (go_at_call 43; refine OK.mono ?_; rintro e w1 ⟨rfl, hb1⟩) | (go_at_call 48; refine (HNE _).mono ?_; rintro e w2 ⟨rfl, rfl⟩) | (go_at_call 49; refine (CA.out _ hb1).mono ?_; rintro e w3 ⟨rfl, ht3, hm3⟩))
      have hB : Below w.heap.size w w3 := hb1.trans (Below.trans (((Below.refl _ _).alloc hb1.size _).alloc (by simp; have := hb1.size; omega) _) (ht3.below hb1.size (by simp; have := hb1.size; omega)))
      go_ret2
      exact givesIs_nil HR.out hB
    | true =>
      have HR := Lib.hid (HGD.out hok)
      rw [hok] at CA
      clear HST HGD hok
      go_enter Tryd.func16, Tryd.ntmps16
      go_wp2_with (first | (go_at_call 43; refine OK.mono ?_; rintro e w1 ⟨rfl, hb1⟩) | (go_at_call 48; refine (HNE _).mono ?_; rintro e w2 ⟨rfl, rfl⟩) | (go_at_call 49; refine (CA.out _ hb1).mono ?_; rintro e w3 ⟨rfl, ht3, hm3⟩) | (go_at_call 50; refine (FO.out _ hb1 _ ht3 hm3).mono ?_; rintro e w4 ⟨v, rfl, ht4, ho4⟩; obtain ⟨ao, cap, rfl⟩ := own_shape ho4))
      have hB3 : Below w.heap.size w w3 := hb1.trans (Below.trans (((Below.refl _ _).alloc hb1.size _).alloc (by simp; have := hb1.size; omega) _) (ht3.below hb1.size (by simp; have := hb1.size; omega)))
      have hB4 : Below w.heap.size w w4 := hB3.trans (ht4.below hb1.size hB3.size)
      go_ret2
      exact givesIs_of HR.out hB4 rfl (own_lo ho4 hB3.size)
end Go.Proofs.YtkfeihnapcfkgaaDoor
