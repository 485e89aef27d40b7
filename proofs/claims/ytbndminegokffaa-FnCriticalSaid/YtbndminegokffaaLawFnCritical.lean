/-
  The walk of the law FnCritical: it returns true at every input.
-/
import Derived.Test.YtbndminegokffaaA2Net
import Derived.Test.YtbndminegokffaaA2At
import Derived.Test.YtbndminegokffaaA2List
import Derived.Test.YtbndminegokffaaAddTube
import Derived.Test.YtbndminegokffaaCritMath
import Derived.Test.YtbndminegokffaaCritTubes
import Derived.Deep.RegionHeld3
import Derived.Deep.RegionLaw
namespace Go
/-- An append onto what the call owns, also of nothing, as a step of a region that draws its order. -/
theorem step_append_at {P : Program} (w : World) {ops : Array Oper} {o : Oper} {a : Act} {K : Act → World → Prop} {Q : Exit → Act → World → Prop} {E : Prop} (hgd : o.guard = none) (s x : Operand) (t : TypeId)
    (ho : o.op = .call { callee := .builtin .append, args := #[s, x], argTypes := #[t, t] })
    (base : Nat) (e : TypeId) (i : TypeInfo) (z : Value) (size bytes : Nat) (ht : P.underlying t = some (.slice e)) (hi : P.info? e = some i) (hz : i.zero = some z)
    (hsize : i.size = size) (hby : i.bytes = bytes) (hzs : z.cells.size = size) (hsz : 0 < size)
    (v : Value) (n : Nat) (xs : List Value) (hs : a.eval s = v) (hown : w.ownsRow base e size v n xs)
    (ad : Addr) (m c : Nat) (news : List Value) (hx : a.eval x = .slice (some ad) m c) (hl : news.length = m * size) (hnews : ∀ j u, news[j]? = some u → w.cell? (ad.add j) = some u) (h1 : ∀ u ∈ news, u.oneCell' = true)
    (h63 : n + m ≤ maxLen) (hbytes : (n + m) * bytes ≤ 140737488355328) (hbase : base ≤ w.heap.size)
    (h : ∀ a' c' w', w'.ownsRow base e size (.slice a' (n + m) c') (n + m) (xs ++ news) → w.grownBy w' v.ownBlock → K (a.put o.dst (.slice a' (n + m) c')) w') :
    if Region.wanted o (yielded ops a.tmps) = true then Oper.wp P o a w K Q else E := by
  have hw : Region.wanted o (yielded ops a.tmps) = true := by simp [Region.wanted, hgd]
  rw [if_pos hw]
  obtain ⟨v', w', hr, h2, h3, _, _⟩ := run_append_own_at (P := P) w base t o.type e i z size bytes ht hi hz hsize hby hzs hsz v n xs hown ad m c news hl hnews h1 h63 hbytes hbase
  have hsh : ∃ a' c', v' = .slice a' (n + m) c' := by
    rcases h2.2 with ⟨q1, q2⟩ | ⟨g, cap, cur, hv, _⟩
    · exact ⟨none, 0, by rw [q1, q2]⟩
    · exact ⟨_, cap, hv⟩
  obtain ⟨a', c', rfl⟩ := hsh
  unfold Oper.wp execOp
  simp only [ho, resolve, invoke, builtin, Sem.run_bind, Sem.run_pure, Result.andThen_ok, List.map_toArray, List.map_cons, List.map_nil, hs, hx, hr]
  exact h a' c' w' h2 h3
end Go
namespace Go.Proofs.Ytbndminegokffaa.fnCritical
open Go.RowKit

theorem flat_app (l r : List T3) : flat (l ++ r) = flat l ++ flat r := by simp [flat]
theorem own_cap {w : World} {lo n c : Nat} {a : Option Addr} {e : TypeId} {size : Nat} {xs : List Value} (h : w.ownsRow lo e size (.slice a n c) n xs) : n ≤ c := by
  rcases h.2 with ⟨hv, h0⟩ | ⟨g, cap, cur, hv, _, _, hnc, _⟩
  · omega
  · injection hv with _ _ h3
    omega
set_option maxRecDepth 100000 in
set_option maxHeartbeats 32000000 in
theorem walk {w : World} (v0 : Value) (x0 : Unit) (hw0 : CodeArg w v0 x0) (v1 : Value) (x1 : Unit) (hw1 : CodeArg w v1 x1) :
    Calls Try.prog 3 #[v0, v1] w fun e w' => e = .returned (.bool true) ∧ Below w.heap.size w w' := by
  obtain ⟨_, a, n, c, rfl, hn, hc⟩ := hw0
  obtain ⟨_, b, m, d, rfl, hm, hd⟩ := hw1
  have HC : Hid (∀ W, Below w.heap.size w W → CodeIn W.heap.size a n W) := fun W hB => hc.later hB
  have HD : Hid (∀ W, Below w.heap.size w W → CodeIn W.heap.size b m W) := fun W hB => hd.later hB
  clear hc hd
  have FB := a2Long_any a b n m c d w hn hm
  by_cases hbig : (decide (3000 < n) || decide (3000 < m)) = true
  · rw [hbig] at FB
    go_enter Try.func3, Try.ntmps3
    go_wp2_with (go_at_call 4; refine FB.mono ?_; rintro e w' ⟨rfl, rfl⟩)
    go_ret
    exact ⟨rfl, Below.refl _ _⟩
  rw [Bool.not_eq_true] at hbig
  rw [hbig] at FB
  have hs1 : n ≤ 3000 := by simp at hbig; omega
  have hs2 : m ≤ 3000 := by simp at hbig; omega
  clear hbig hn hm
  have BB : Hid (Below w.heap.size w w) := Below.refl _ _
  go_enter Try.func3, Try.ntmps3
  go_wp2_with (go_at_call 4; refine FB.mono ?_; rintro e w' ⟨rfl, rfl⟩)
  clear FB
  refine (a2Net_any a n c _ (HC.out _ BB.out) (by omega)).mono ?_
  rintro e w1 ⟨s, ts, ao, k, ca, rfl, hnet, hl, hk14, hb1, ho1⟩
  obtain ⟨S, rfl⟩ := net_nat hnet
  have hS2 : 2 ≤ S := by have := (netB_parts hnet).1; omega
  have NET := Lib.hid hnet
  have HL := hl
  replace BB := Lib.hid (two_worlds BB.out hb1)
  have hkc : k ≤ ca := own_cap ho1
  have FS : Hid (RT w1 ao ts) := rowO_RT hl ho1
  have TRS : Hid (∀ W, Below (w1.alloc (.cells #[.int .i64 (S : Int), .slice ao k ca] 26)).heap.size (w1.alloc (.cells #[.int .i64 (S : Int), .slice ao k ca] 26)) W → Below w.heap.size w W) := fun W hW => two_worlds (two_worlds BB.out (show Below w1.heap.size w1 (w1.alloc (.cells #[.int .i64 (S : Int), .slice ao k ca] 26)) from (by repeat (first | exact Below.refl _ _ | refine Below.alloc ?_ (by simp; try omega) _ | refine Below.setCell ?_ (by simp; try omega) _)))) hW
  have BX : Hid (∀ W, Below (w1.alloc (.cells #[.int .i64 (S : Int), .slice ao k ca] 26)).heap.size (w1.alloc (.cells #[.int .i64 (S : Int), .slice ao k ca] 26)) W → W.cell? ⟨w1.heap.size, 0, none⟩ = some (.int .i64 (S : Int)) ∧ W.cell? ⟨w1.heap.size, 1, none⟩ = some (.slice ao k ca)) := fun W hW => ⟨(hW.cell (p := ⟨w1.heap.size, 0, none⟩) (by simp)).trans (by simp [go_sem]), (hW.cell (p := ⟨w1.heap.size, 1, none⟩) (by simp)).trans (by simp [go_sem])⟩
  have FSV : Hid (∀ W, Below (w1.alloc (.cells #[.int .i64 (S : Int), .slice ao k ca] 26)).heap.size (w1.alloc (.cells #[.int .i64 (S : Int), .slice ao k ca] 26)) W → RT W ao ts) := fun W hW => FS.out.below (two_worlds (show Below w1.heap.size w1 (w1.alloc (.cells #[.int .i64 (S : Int), .slice ao k ca] 26)) from (by repeat (first | exact Below.refl _ _ | refine Below.alloc ?_ (by simp; try omega) _ | refine Below.setCell ?_ (by simp; try omega) _))) hW)
  have HG : Hid (0 < k → ∃ g, ao = some ⟨g, 0, none⟩) := fun hk => by
    obtain ⟨g, cap, he, _⟩ := World.ownsRow.form ho1 hk
    injection he with he
    exact ⟨g, he⟩
  have HI : Hid (∃ i0 : TypeInfo, Try.prog.info? 36 = some i0 ∧ i0.zero = some (.agg #[.int .i64 0, .int .i64 0, .int .i64 0]) ∧ i0.size = 3 ∧ i0.bytes = 24) := info_parts infoTube
  have CT := implCriticalTubesC_any (S : Int) ao ts k ca (w1.alloc (.cells #[.int .i64 (S : Int), .slice ao k ca] 26)) HL (FSV.out _ (Below.refl _ _)) hkc (by omega)
  clear hb1 ho1 hl FS
  cases hs : strongB ts (-1) S with
  | false =>
    rw [critOf_weak hnet hs] at CT
    have SI : Hid (∀ W, Below (w1.alloc (.cells #[.int .i64 (S : Int), .slice ao k ca] 26)).heap.size (w1.alloc (.cells #[.int .i64 (S : Int), .slice ao k ca] 26)) W → Calls Try.prog 7 #[.agg #[.int .i64 (S : Int), .slice ao k ca]] W fun e w' => e = .returned (.tuple #[.bool false, .int .i64 0]) ∧ Below W.heap.size W w') := fun W hW => by
      have := specIsStrong_any (S : Int) ao ts k ca W HL (FSV.out _ hW) (by omega)
      rw [strongOf_good hnet, hs] at this
      exact this
    clear hnet hs
    go_wp2_with fail
    refine CT.mono ?_
    intro e w2 hgv
    obtain ⟨a2, c2, rfl, hb2, _⟩ := GivesL.elim (m := 0) (show Hid (([] : List Int).length = 0) from rfl) hgv
    clear hgv CT
    have SI2 := SI.out _ hb2
    obtain ⟨y0, y1⟩ := BX.out _ hb2
    have HB2 := Lib.hid hb2
    clear hb2
    go_wp2_with (go_at_call 7; refine SI2.mono ?_; rintro e w3 ⟨rfl, hb3⟩)
    go_ret
    exact ⟨rfl, TRS.out _ (two_worlds HB2.out hb3)⟩
  | true =>
    rw [critOf_good hnet hs HL.out] at CT
    have HS := Lib.hid hs
    have hk2 : 2 ≤ k := by have := strong_two (nats_of hnet) hS2 hs; rw [HL.out] at this; exact this
    have NAT := Lib.hid (nats_of hnet)
    clear hnet hs
    have hrise := critK_rises ts S k
    obtain ⟨l, hl⟩ : ∃ l, critK ts S k = l := ⟨_, rfl⟩
    have hlen := critK_len ts S k
    have HKL := Lib.hid hl
    rw [hl] at CT hrise hlen
    obtain ⟨m2, hm2⟩ : ∃ m2, l.length = m2 := ⟨_, rfl⟩
    have HM2 := Lib.hid hm2
    rw [hm2] at hlen
    have HRISE := Lib.hid hrise
    clear hl hm2 hrise
    go_wp2_with fail
    refine CT.mono ?_
    intro e w2 hgv
    obtain ⟨a2, c2, rfl, hb2, ho2⟩ := GivesL.elim HM2 hgv
    have FL : Hid (∀ W, Below w2.heap.size w2 W → RI W a2 l) := fun W hW => (rowI_RI HM2 ho2).below hW
    obtain ⟨y0, y1⟩ := BX.out _ hb2
    have TR2 : Hid (∀ W, Below w2.heap.size w2 W → Below (w1.alloc (.cells #[.int .i64 (S : Int), .slice ao k ca] 26)).heap.size (w1.alloc (.cells #[.int .i64 (S : Int), .slice ao k ca] 26)) W) := fun W hW => two_worlds hb2 hW
    clear hgv CT hb2 ho2
    have RS := a2Rises_yes a2 l m2 c2 (k : Int) w2 HM2 (FL.out _ (Below.refl _ _)) (by omega) HRISE.out
    clear HRISE
    go_wp2_with (go_at_call 8; refine RS.mono ?_; rintro e w3 ⟨rfl, q, rfl⟩)
    clear RS y0 y1
    obtain ⟨ba, rfl⟩ := HG.out (by omega)
    go_loopw [10] (fun iv wr => ∃ i : Nat, i ≤ k ∧ iv = .int .i64 (i : Int) ∧ Hid (Below w2.heap.size w2 wr)) (fun iv _ => k - (intOf iv).toNat)
    case atStart => exact ⟨0, by omega, rfl, Below.drewN' (Below.refl _ _) q⟩
    case round =>
      obtain ⟨i, hik, rfl, HB⟩ := hrel
      obtain ⟨y0, y1⟩ := BX.out _ (TR2.out _ HB.out)
      have hi0 : (0 : Int) ≤ (i : Int) := by omega
      by_cases hlt : i < k
      · have hi1 : (i : Int) < (k : Int) := by omega
        obtain ⟨b', off', he, hba, hcb⟩ := (FSV.out wr (TR2.out _ HB.out)).at3 (by rw [HL.out]; omega)
        injection he with he
        injection he with e1 e2
        subst e1 e2
        obtain ⟨n0, n1⟩ := newsT hcb (i + 1)
        obtain ⟨n2, _⟩ := newsT hcb i
        rw [Nat.zero_add] at n1
        have NEW0 := Lib.hid n2
        have HL0 : Hid ((flat (ts.take i)).length = i * 3) := by unfold Hid; rw [flat_length, List.length_take, HL.out]; congr 1; omega
        have HL1 : Hid ((flat (ts.drop (i + 1))).length = (k - (i + 1)) * 3) := by unfold Hid; rw [flat_length, List.length_drop, HL.out]
        have hi2 : (i : Int) + 1 ≤ (k : Int) := by omega
        have hi4 : (i : Int) ≤ (k : Int) := by omega
        have hi5 : (0 : Int) ≤ (i : Int) + 1 := by omega
        have hi6 : i ≤ k := by omega
        have hi7 : i + 1 ≤ k := by omega
        have hw1' : IntKind.i64.wrap ((i : Int) + 1) = (i : Int) + 1 := IntWalk.i64_in _ (by omega)
        have hc4 : (k : Int) ≤ (ca : Int) := by omega
        have hc5 : (i : Int) + 1 ≤ (ca : Int) := by omega
        have hc6 : (i : Int) ≤ (ca : Int) := by omega
        have hc7 : i ≤ ca := by omega
        have hc8 : i + 1 ≤ ca := by omega
        have hne : w1.heap.size < wr.heap.size := by
          have h1 := (TR2.out _ HB.out).size
          simp at h1
          omega
        have hne1 : w1.heap.size ≠ wr.heap.size := by omega
        clear n0 n2 hcb
        go_wp2_with fail
        go_region_law (refine step_append_at _ (by rfl) _ _ 24 (by rfl) (wr.heap.size + 1) 36 HI.out.choose (.agg #[.int .i64 0, .int .i64 0, .int .i64 0]) 3 24 Try.underlying24 HI.out.choose_spec.1 HI.out.choose_spec.2.1 HI.out.choose_spec.2.2.1 HI.out.choose_spec.2.2.2 rfl (by decide) (.slice none 0 0) 0 [] (by rfl) (World.ownsRow_nil _ _ _ _) ⟨ba, 0, none⟩ i ca (flat (ts.take i)) (by rfl) HL0.out (NEW0.out _ (by (repeat (first | exact Below.refl _ _ | refine Below.drew ?_ | refine Below.drewN' ?_ _ | refine Below.alloc ?_ (by first | (simp; done) | (simp; omega)) _ | refine Below.setCell ?_ (by first | (simp; done) | (simp; omega)) _)); done)) (flat_oneC _) (by unfold maxLen; omega) (by omega) (by simp) ?_; intro a4 c4 w4 ho4 hg4; have hb4 : Below (wr.alloc (.cells #[.int .i64 (S : Int), .slice none 0 0] 26)).heap.size (wr.alloc (.cells #[.int .i64 (S : Int), .slice none 0 0] 26)) w4 := Below.grown (show Below (wr.alloc (.cells #[.int .i64 (S : Int), .slice none 0 0] 26)).heap.size (wr.alloc (.cells #[.int .i64 (S : Int), .slice none 0 0] 26)) _ from (by (repeat (first | exact Below.refl _ _ | refine Below.drew ?_ | refine Below.drewN' ?_ _ | refine Below.alloc ?_ (by first | (simp; done) | (simp; omega)) _ | refine Below.setCell ?_ (by first | (simp; done) | (simp; omega)) _)); done)) hg4 (by simp) (fun p hp => by simp [Value.ownBlock] at hp); have d0 : w4.cell? ⟨wr.heap.size, 0, none⟩ = some (.int .i64 (S : Int)) := (hb4.cell (p := ⟨wr.heap.size, 0, none⟩) (by simp)).trans (by simp [go_sem]); have d1 : w4.cell? ⟨wr.heap.size, 1, none⟩ = some (.slice none 0 0) := (hb4.cell (p := ⟨wr.heap.size, 1, none⟩) (by simp)).trans (by simp [go_sem]); have d2 : w4.frozen? ⟨wr.heap.size, 1, none⟩ = false := ((bcell hb4).2 wr.heap.size 1 (by simp)).trans (by simp [go_sem]))
        all_goals
          obtain ⟨w5, hw5⟩ : ∃ w5, w4.setCell ⟨wr.heap.size, 1, none⟩ (.slice a4 i c4) = w5 := ⟨_, rfl⟩
          have O5 : Hid (w5.ownsRow (wr.heap.size + 1) 36 3 (.slice a4 i c4) i (flat (ts.take i))) := by
            have h9 : w4.ownsRow (wr.heap.size + 1) 36 3 (.slice a4 i c4) i (flat (ts.take i)) := by simpa using ho4
            subst hw5
            exact ownn_set h9 (by omega) 1 _
          have hb5 : Below wr.heap.size wr w5 := by
            subst hw5
            exact (two_worlds (show Below wr.heap.size wr (wr.alloc (.cells #[.int .i64 (S : Int), .slice none 0 0] 26)) from (by repeat (first | exact Below.refl _ _ | refine Below.alloc ?_ (by simp; try omega) _ | refine Below.setCell ?_ (by simp; try omega) _))) hb4).setCell (Nat.le_refl _) _
          have hz5 : wr.heap.size + 1 ≤ w5.heap.size := by
            have h9 := hb4.size
            subst hw5
            simpa using h9
          have f0 : w5.cell? ⟨wr.heap.size, 0, none⟩ = some (.int .i64 (S : Int)) := by
            subst hw5
            simp [go_sem, d0]
          have f1 : w5.cell? ⟨wr.heap.size, 1, none⟩ = some (.slice a4 i c4) := by
            subst hw5
            simp [go_sem, d1]
          have f2 : w5.frozen? ⟨wr.heap.size, 1, none⟩ = false := by
            subst hw5
            simp [go_sem, d2]
          rw [hw5]
          clear hw5 d0 d1 d2 hb4 ho4 hg4 y0 y1
          obtain ⟨y0, y1⟩ := BX.out _ (TR2.out _ (two_worlds HB.out hb5))
          have B5 := Lib.hid hb5
          clear hb5
          by_cases hlast : i + 1 = ca
          · have NEW1 : Hid (∀ W, Below wr.heap.size wr W → ∀ j u, (flat (ts.drop (i + 1)))[j]? = some u → W.cell? ((⟨ba, 0, none⟩ : Addr).add j) = some u) := fun W _ j u hj => by
              rw [List.drop_of_length_le (by rw [HL.out]; omega)] at hj
              simp [flat] at hj
            obtain rfl : k = ca := by omega
            have hw2 : IntKind.i64.wrap ((i : Int) + 1) = (k : Int) := by rw [hw1']; omega
            have HLM : Hid ((flat (ts.drop (i + 1))).length = 0 * 3) := by unfold Hid; rw [HL1.out]; omega
            clear n1 hw1'
            go_wp2_with fail
            go_region_law (refine step_append_at _ (by rfl) _ _ 24 (by rfl) (wr.heap.size + 1) 36 HI.out.choose (.agg #[.int .i64 0, .int .i64 0, .int .i64 0]) 3 24 Try.underlying24 HI.out.choose_spec.1 HI.out.choose_spec.2.1 HI.out.choose_spec.2.2.1 HI.out.choose_spec.2.2.2 rfl (by decide) (.slice a4 i c4) i (flat (ts.take i)) (by rfl) (own_belowF O5.out (by (repeat (first | exact Below.refl _ _ | refine Below.drew ?_ | refine Below.drewN' ?_ _ | refine Below.alloc ?_ (by first | (simp; done) | (simp; omega)) _ | refine Below.setCell ?_ (by first | (simp; done) | (simp; omega)) _)); done)) ⟨ba, 0, none⟩ 0 _ (flat (ts.drop (i + 1))) (by rfl) HLM.out (NEW1.out _ (two_worlds B5.out (by (repeat (first | exact Below.refl _ _ | refine Below.drew ?_ | refine Below.drewN' ?_ _ | refine Below.alloc ?_ (by first | (simp; done) | (simp; omega)) _ | refine Below.setCell ?_ (by first | (simp; done) | (simp; omega)) _)); done))) (flat_oneC _) (by unfold maxLen; omega) (by omega) (by simp; omega) ?_; intro a6 c6 w6 ho6 hg6; have hb6 : Below (wr.heap.size + 1) w5 w6 := Below.grown (show Below (wr.heap.size + 1) w5 _ from (by (repeat (first | exact Below.refl _ _ | refine Below.drew ?_ | refine Below.drewN' ?_ _ | refine Below.alloc ?_ (by first | (simp; done) | (simp; omega)) _ | refine Below.setCell ?_ (by first | (simp; done) | (simp; omega)) _)); done)) hg6 (by simp; omega) (fun p hp => own_lo_block O5.out hp); have d0 : w6.cell? ⟨wr.heap.size, 0, none⟩ = some (.int .i64 (S : Int)) := (hb6.cell (p := ⟨wr.heap.size, 0, none⟩) (by simp)).trans f0; have d1 : w6.cell? ⟨wr.heap.size, 1, none⟩ = some (.slice a4 i c4) := (hb6.cell (p := ⟨wr.heap.size, 1, none⟩) (by simp)).trans f1; have d2 : w6.frozen? ⟨wr.heap.size, 1, none⟩ = false := (hb6.frozen (p := ⟨wr.heap.size, 1, none⟩) (by simp)).trans f2)
            all_goals
              obtain ⟨w7, hw7⟩ : ∃ w7, w6.setCell ⟨wr.heap.size, 1, none⟩ (.slice a6 i c6) = w7 := ⟨_, rfl⟩
              have HLO : Hid ((outT ts i).length = i) := by unfold Hid; rw [outT_len HL.out hlt]; omega
              have O7 : RT w7 a6 (outT ts i) := by
                have h9 : w6.ownsRow (wr.heap.size + 1) 36 3 (.slice a6 i c6) i (flat (outT ts i)) := by
                  unfold outT
                  rw [flat_app]
                  exact ho6
                subst hw7
                exact rowO_RT HLO (ownn_set h9 (by omega) 1 _)
              have hb7 : Below wr.heap.size wr w7 := by
                subst hw7
                exact (B5.out.trans (hb6.mono (by omega))).setCell (Nat.le_refl _) _
              have f0 : w7.cell? ⟨wr.heap.size, 0, none⟩ = some (.int .i64 (S : Int)) := by
                subst hw7
                simp [go_sem, d0]
              have f1 : w7.cell? ⟨wr.heap.size, 1, none⟩ = some (.slice a6 i c6) := by
                subst hw7
                simp [go_sem, d1]
              rw [hw7]
              clear hw7 d0 d1 d2 hb6 ho6 hg6 y0 y1
              have B7 := Lib.hid (two_worlds HB.out hb7)
              have IS := implIsStrong_any (S : Int) a6 (outT ts i) i c6 w7 HLO O7 (by omega)
              rw [strongOf_good (net_out NET.out), strong_out HL.out hlt NAT.out] at IS
              dsimp only at IS
              have hh : hasB l (i : Int) = !strongB ts (i : Int) S := by rw [← HKL.out]; exact critK_has i hlt
              have AH : ∀ W, Below w2.heap.size w2 W → _ := fun W h => a2Has_any a2 l m2 c2 (i : Int) W HM2 (FL.out W h) (by omega)
              rw [hh] at AH
              generalize strongB ts (i : Int) S = sb at IS AH
              clear hh O7 hb7 NEW1 NEW0 HL0 HL1
              cases sb
              all_goals
                simp only [Bool.not_true, Bool.not_false] at AH
                go_wp2_with (first | (go_at_call 9; refine IS.mono ?_; rintro e w8 ⟨rfl, hb8⟩) | (go_at_call 10; refine (AH _ (two_worlds B7.out hb8)).mono ?_; rintro e w9 ⟨rfl, rfl⟩))
                go_roundw
                case rel => exact ⟨i + 1, by omega, by go_num, two_worlds B7.out hb8⟩
                case measure => simp [intOf]; omega
          · have NEW1 := Lib.hid n1
            have hi3 : (i : Int) + 1 < (ca : Int) := by omega
            have hi8 : ¬ ca = i + 1 := by omega
            have HLM := HL1
            clear n1
            go_wp2_with fail
            go_region_law (refine step_append_at _ (by rfl) _ _ 24 (by rfl) (wr.heap.size + 1) 36 HI.out.choose (.agg #[.int .i64 0, .int .i64 0, .int .i64 0]) 3 24 Try.underlying24 HI.out.choose_spec.1 HI.out.choose_spec.2.1 HI.out.choose_spec.2.2.1 HI.out.choose_spec.2.2.2 rfl (by decide) (.slice a4 i c4) i (flat (ts.take i)) (by rfl) (own_belowF O5.out (by (repeat (first | exact Below.refl _ _ | refine Below.drew ?_ | refine Below.drewN' ?_ _ | refine Below.alloc ?_ (by first | (simp; done) | (simp; omega)) _ | refine Below.setCell ?_ (by first | (simp; done) | (simp; omega)) _)); done)) ⟨ba, (i + 1) * 3, none⟩ (k - (i + 1)) _ (flat (ts.drop (i + 1))) (by rfl) HLM.out (NEW1.out _ (two_worlds B5.out (by (repeat (first | exact Below.refl _ _ | refine Below.drew ?_ | refine Below.drewN' ?_ _ | refine Below.alloc ?_ (by first | (simp; done) | (simp; omega)) _ | refine Below.setCell ?_ (by first | (simp; done) | (simp; omega)) _)); done))) (flat_oneC _) (by unfold maxLen; omega) (by omega) (by simp; omega) ?_; intro a6 c6 w6 ho6 hg6; have hb6 : Below (wr.heap.size + 1) w5 w6 := Below.grown (show Below (wr.heap.size + 1) w5 _ from (by (repeat (first | exact Below.refl _ _ | refine Below.drew ?_ | refine Below.drewN' ?_ _ | refine Below.alloc ?_ (by first | (simp; done) | (simp; omega)) _ | refine Below.setCell ?_ (by first | (simp; done) | (simp; omega)) _)); done)) hg6 (by simp; omega) (fun p hp => own_lo_block O5.out hp); have d0 : w6.cell? ⟨wr.heap.size, 0, none⟩ = some (.int .i64 (S : Int)) := (hb6.cell (p := ⟨wr.heap.size, 0, none⟩) (by simp)).trans f0; have d1 : w6.cell? ⟨wr.heap.size, 1, none⟩ = some (.slice a4 i c4) := (hb6.cell (p := ⟨wr.heap.size, 1, none⟩) (by simp)).trans f1; have d2 : w6.frozen? ⟨wr.heap.size, 1, none⟩ = false := (hb6.frozen (p := ⟨wr.heap.size, 1, none⟩) (by simp)).trans f2)
            all_goals
              obtain ⟨w7, hw7⟩ : ∃ w7, w6.setCell ⟨wr.heap.size, 1, none⟩ (.slice a6 (i + (k - (i + 1))) c6) = w7 := ⟨_, rfl⟩
              have HLO : Hid ((outT ts i).length = (i + (k - (i + 1)))) := by unfold Hid; rw [outT_len HL.out hlt]; omega
              have O7 : RT w7 a6 (outT ts i) := by
                have h9 : w6.ownsRow (wr.heap.size + 1) 36 3 (.slice a6 (i + (k - (i + 1))) c6) (i + (k - (i + 1))) (flat (outT ts i)) := by
                  unfold outT
                  rw [flat_app]
                  exact ho6
                subst hw7
                exact rowO_RT HLO (ownn_set h9 (by omega) 1 _)
              have hb7 : Below wr.heap.size wr w7 := by
                subst hw7
                exact (B5.out.trans (hb6.mono (by omega))).setCell (Nat.le_refl _) _
              have f0 : w7.cell? ⟨wr.heap.size, 0, none⟩ = some (.int .i64 (S : Int)) := by
                subst hw7
                simp [go_sem, d0]
              have f1 : w7.cell? ⟨wr.heap.size, 1, none⟩ = some (.slice a6 (i + (k - (i + 1))) c6) := by
                subst hw7
                simp [go_sem, d1]
              rw [hw7]
              clear hw7 d0 d1 d2 hb6 ho6 hg6 y0 y1
              have B7 := Lib.hid (two_worlds HB.out hb7)
              have IS := implIsStrong_any (S : Int) a6 (outT ts i) (i + (k - (i + 1))) c6 w7 HLO O7 (by omega)
              rw [strongOf_good (net_out NET.out), strong_out HL.out hlt NAT.out] at IS
              dsimp only at IS
              have hh : hasB l (i : Int) = !strongB ts (i : Int) S := by rw [← HKL.out]; exact critK_has i hlt
              have AH : ∀ W, Below w2.heap.size w2 W → _ := fun W h => a2Has_any a2 l m2 c2 (i : Int) W HM2 (FL.out W h) (by omega)
              rw [hh] at AH
              generalize strongB ts (i : Int) S = sb at IS AH
              clear hh O7 hb7 NEW1 NEW0 HL0 HL1
              cases sb
              all_goals
                simp only [Bool.not_true, Bool.not_false] at AH
                go_wp2_with (first | (go_at_call 9; refine IS.mono ?_; rintro e w8 ⟨rfl, hb8⟩) | (go_at_call 10; refine (AH _ (two_worlds B7.out hb8)).mono ?_; rintro e w9 ⟨rfl, rfl⟩))
                go_roundw
                case rel => exact ⟨i + 1, by omega, by go_num, two_worlds B7.out hb8⟩
                case measure => simp [intOf]; omega
      · have hik2 : i = k := by omega
        subst hik2
        have AT := a2At_any b m d wr (HD.out _ (TRS.out _ (TR2.out _ HB.out))) hs2
        have hne : w1.heap.size < wr.heap.size := by
          have h1 := (TR2.out _ HB.out).size
          simp at h1
          omega
        go_wp2_with (go_at_call 11; refine AT.mono ?_; rintro e w4 ⟨⟨v, hv0, hv1, rfl⟩, hb4⟩; obtain ⟨z0, z1⟩ := BX.out _ (TR2.out _ (two_worlds HB.out hb4)); have hne4 : w1.heap.size < w4.heap.size := Nat.lt_of_lt_of_le hne hb4.size; have hne5 : w1.heap.size ≠ w4.heap.size := Nat.ne_of_lt hne4)
        have B4 : Hid (Below w2.heap.size w2 (w4.alloc (.cells #[.int .i64 0, .int .i64 1, .int .i64 (1 + v)] 36))) := two_worlds (two_worlds HB.out hb4) (show Below w4.heap.size w4 (w4.alloc (.cells #[.int .i64 0, .int .i64 1, .int .i64 (1 + v)] 36)) from (by repeat (first | exact Below.refl _ _ | refine Below.alloc ?_ (by simp; try omega) _ | refine Below.setCell ?_ (by simp; try omega) _)))
        clear hb4 AT z0 z1 hne5
        have HTB : tubeB (S : Int) (0, 1, 1 + v) = true := tube_new hS2 v hv0 hv1
        have AD := implAddTube_any (S : Int) (0, 1, 1 + v) ba ts i ca (w4.alloc (.cells #[.int .i64 0, .int .i64 1, .int .i64 (1 + v)] 36)) HL (FSV.out _ (TR2.out _ B4.out)) (by omega)
        rw [addOf_ok NET.out HTB (by rw [HL.out]; omega)] at AD
        have HLW : Hid ((ts ++ [(0, 1, 1 + v)]).length = i + 1) := by unfold Hid; rw [List.length_append, HL.out]; rfl
        obtain ⟨cm1, cm2⟩ := crit_more HL.out NET.out HTB (by omega) HS.out
        refine AD.mono ?_
        clear AD
        rintro e w5 ⟨a5, c5, he, hb5, ho5⟩
        dsimp only at he ho5
        rw [HLW.out] at he ho5
        subst he
        have hc5 : i + 1 ≤ c5 := own_cap ho5
        have B5 : Hid (Below w2.heap.size w2 w5) := two_worlds B4.out hb5
        have hne6 : w4.heap.size + 1 ≤ w5.heap.size := by have := hb5.size; simpa using this
        obtain ⟨z0, z1⟩ := BX.out _ (TR2.out _ B5.out)
        have FW : Hid (∀ W, Below w5.heap.size w5 W → RT W a5 (ts ++ [(0, 1, 1 + v)])) := fun W hW => (rowO_RT HLW ho5).below hW
        have CW := implCriticalTubesC_any (S : Int) a5 (ts ++ [(0, 1, 1 + v)]) (i + 1) c5 (w5.alloc (.cells #[.int .i64 (S : Int), .slice a5 (i + 1) c5] 26)) HLW (FW.out _ (by repeat (first | exact Below.refl _ _ | refine Below.alloc ?_ (by simp; try omega) _ | refine Below.setCell ?_ (by simp; try omega) _))) hc5 (by omega)
        rw [cm1] at CW
        obtain ⟨l2, hl2⟩ : ∃ l2, critK (ts ++ [(0, 1, 1 + v)]) S (i + 1) = l2 := ⟨_, rfl⟩
        have hlen2 := critK_len (ts ++ [(0, 1, 1 + v)]) S (i + 1)
        rw [hl2] at CW cm2 hlen2
        obtain ⟨m3, hm3⟩ : ∃ m3, l2.length = m3 := ⟨_, rfl⟩
        have HM3 := Lib.hid hm3
        rw [hm3] at hlen2
        have HH := Lib.hid cm2
        have hne : w1.heap.size < w5.heap.size := by omega
        have hne5 : w1.heap.size ≠ w5.heap.size := by omega
        clear cm1 cm2 hl2 hm3 hb5 ho5
        go_wp2_with fail
        refine CW.mono ?_
        intro e w6 hgv
        obtain ⟨a6, c6, rfl, hb6, ho6⟩ := GivesL.elim HM3 hgv
        clear CW hgv
        have AH := a2Has_any a6 l2 m3 c6 (i : Int) w6 HM3 (rowI_RI HM3 ho6) (by omega)
        rw [HH.out] at AH
        have x0 : w6.cell? ⟨w5.heap.size, 0, none⟩ = some (.int .i64 (S : Int)) := (hb6.cell (p := ⟨w5.heap.size, 0, none⟩) (by simp)).trans (by simp [go_sem])
        have x1 : w6.cell? ⟨w5.heap.size, 1, none⟩ = some (.slice a5 (i + 1) c5) := (hb6.cell (p := ⟨w5.heap.size, 1, none⟩) (by simp)).trans (by simp [go_sem])
        have B6 : Hid (Below w2.heap.size w2 w6) := two_worlds (two_worlds B5.out (show Below w5.heap.size w5 (w5.alloc (.cells #[.int .i64 (S : Int), .slice a5 (i + 1) c5] 26)) from (by repeat (first | exact Below.refl _ _ | refine Below.alloc ?_ (by simp; try omega) _ | refine Below.setCell ?_ (by simp; try omega) _)))) hb6
        obtain ⟨t0, t1⟩ := BX.out _ (TR2.out _ B6.out)
        have hwn : IntKind.i64.wrap ((i : Int) + 1) = (i : Int) + 1 := IntWalk.i64_in _ (by omega)
        have hwc : ((i + 1 : Nat) : Int) = (i : Int) + 1 := by omega
        clear z0 z1 ho6 hb6
        go_wp2_with (go_at_call 10; refine AH.mono ?_; rintro e w7 ⟨rfl, rfl⟩)
        go_ret
        exact ⟨rfl, TRS.out _ (TR2.out _ B6.out)⟩
end Go.Proofs.Ytbndminegokffaa.fnCritical
