/-
  Costs between stations: when they are valid; CostOfMoves, the model's walk and the program's.
-/
import Derived.Test.YtabopjdcpllocaaSendC
import Derived.Test.YtabopjdcpllocaaInt64SNest
namespace Go.Proofs.Ytabopjdcpllocaa
open Go.RowKit

theorem RN.at_ {β : Type} {M k : Nat} {c : Value → β → List Value} {w : World} {a : Option Addr} {ts : List (List Int × β)} (h : RN M k c w a ts) (i : Nat) (hi : i < ts.length) :
    ∃ b off ai ci, a = some ⟨b, off, none⟩ ∧ b < w.heap.size ∧ RI w ai ts[i].1 ∧ ts[i].1.length ≤ M ∧ ∀ (j : Nat) (v : Value), (c (.slice ai ts[i].1.length ci) ts[i].2)[j]? = some v → w.cell? ⟨b, off + i * k + j, none⟩ = some v := by
  obtain ⟨b, off, ha, hb, hc⟩ := h.addr (by omega)
  obtain ⟨ai, ci, h1, h2, h3⟩ := hc i hi
  exact ⟨b, off, ai, ci, ha, hb, h1, h2, h3⟩
def rowB (s : Nat) (t : TInt64S) : Bool := decide (t.1.length = s) && t.1.all (fun x => inB x 0 1000)
def ctB (s : Nat) (cs : List TInt64S) : Bool := decide (cs.length = s) && cs.all (rowB s)
theorem ctB_at {s : Nat} {cs : List TInt64S} (h : ctB s cs = true) (i : Nat) (hi : i < cs.length) : cs[i].1.length = s ∧ ∀ j (hj : j < cs[i].1.length), 0 ≤ cs[i].1[j] ∧ cs[i].1[j] ≤ 1000 := by
  unfold ctB at h
  rw [Bool.and_eq_true] at h
  have h2 := all_at h.2 i hi
  unfold rowB at h2
  rw [Bool.and_eq_true] at h2
  exact ⟨of_decide_eq_true h2.1, fun j hj => inB_of (all_at (f := fun x => inB x 0 1000) h2.2 j hj)⟩
theorem ctB_len {s : Nat} {cs : List TInt64S} (h : ctB s cs = true) : cs.length = s := by
  unfold ctB at h
  rw [Bool.and_eq_true] at h
  exact of_decide_eq_true h.1
theorem ne_cast {a b : Nat} (h : ¬ a = b) : ((a : Int) != (b : Int)) = true := by rw [bne_iff_ne]; omega

set_option maxHeartbeats 1000000 in
theorem l07Costs_any (s : Nat) (a : Option Addr) (cs : List TInt64S) (n ca : Nat) (w : World) (hn : Hid (cs.length = n)) (ha : RN 1048576 1 cInt64S w a cs) (hmax : n ≤ 1048576) (hs : s ≤ 1048576) :
    Calls Try.prog 68 #[.int .i64 s, .slice a n ca] w fun e w' => e = .returned (.bool (ctB s cs)) ∧ w = w' := by
  have HA := Lib.hid ha
  clear ha
  go_enter Try.func68, Try.ntmps68
  go_wp2
  go_loop [5] (fun iv => ∃ k : Nat, k ≤ n ∧ iv = .int .i64 k ∧ Hid (∀ j (h : j < cs.length), j < k → rowB s cs[j] = true)) (fun iv => n - (intOf iv).toNat)
  case atStart => exact ⟨0, by omega, rfl, fun j _ hj => by omega⟩
  case round =>
    obtain ⟨k, hk, rfl, HALL⟩ := hrel
    by_cases hlt : k < n
    · have hka : k < cs.length := by rw [hn.out]; exact hlt
      have HBAD : Hid (rowB s cs[k] = false → ctB s cs = false) := fun h => by unfold ctB; rw [all_no (f := rowB s) k hka h]; simp
      have HOK : Hid (rowB s cs[k] = true → ∀ j (h : j < cs.length), j < k + 1 → rowB s cs[j] = true) := fun ht j h hj => if e : j = k then (by subst e; exact ht) else HALL.out j h (by omega)
      obtain ⟨b, off, ai, ci, rfl, _, hri, hq, hc⟩ := HA.out.at_ k hka
      have x0 := hc 0 _ rfl
      simp only [Nat.mul_one, Nat.add_zero] at x0
      have HRI := Lib.hid hri
      clear hri hc
      generalize cs[k] = t at x0 HRI hq HBAD HOK
      obtain ⟨t1, tu⟩ := t
      dsimp only at x0 HRI hq HBAD HOK
      generalize hql : t1.length = q at x0 hq
      have HQ := Lib.hid hql
      clear hql
      have hk0 : (0 : Int) ≤ (k : Int) := by omega
      have hk1 : (k : Int) < (n : Int) := by omega
      by_cases hqs : q = s
      · go_wp2
        go_loop [6] (fun jv => ∃ j : Nat, j ≤ q ∧ jv = .int .i64 j ∧ Hid (∀ i (h : i < t1.length), i < j → inB t1[i] 0 1000 = true)) (fun jv => q - (intOf jv).toNat)
        case atStart => exact ⟨0, by omega, rfl, fun j _ hj => by omega⟩
        case round =>
          obtain ⟨j, hj, rfl, HIN⟩ := hrel
          by_cases hlj : j < q
          · have hja : j < t1.length := by rw [HQ.out]; exact hlj
            have HBAD2 : Hid (inB t1[j] 0 1000 = false → ctB s cs = false) := fun h => HBAD.out (by unfold rowB; dsimp only; rw [all_no (f := fun x => inB x 0 1000) j hja h]; simp)
            have HOK2 : Hid (inB t1[j] 0 1000 = true → ∀ i (h : i < t1.length), i < j + 1 → inB t1[i] 0 1000 = true) := fun ht i h hi => if e : i = j then (by subst e; exact ht) else HIN.out i h (by omega)
            obtain ⟨b2, off2, rfl, _, y1⟩ := HRI.out.at_ j hja
            generalize t1[j] = v at y1 HBAD2 HOK2
            have hj0 : (0 : Int) ≤ (j : Int) := by omega
            have hj1 : (j : Int) < (q : Int) := by omega
            cases hv : inB v 0 1000 with
            | false =>
              have HR := Lib.hid (HBAD2.out hv)
              clear HBAD2 HOK2
              go_wp2_with (go_at_call 40; refine (l00In_any _ _ _ _).mono ?_; rintro e w' ⟨rfl, rfl⟩)
              go_ret
              exact ⟨ret_bool HR.out.symm, rfl⟩
            | true =>
              have HN2 := Lib.hid (HOK2.out hv)
              clear HBAD2 HOK2
              go_wp2_with (go_at_call 40; refine (l00In_any _ _ _ _).mono ?_; rintro e w' ⟨rfl, rfl⟩)
              go_round
              case rel => exact ⟨j + 1, by omega, by go_num, HN2⟩
              case measure => simp [intOf]; omega
          · have HROW : Hid (rowB s (t1, tu) = true) := by
              unfold Hid rowB
              dsimp only
              rw [HQ.out, all_yes (fun i hi => HIN.out i hi (by rw [HQ.out] at hi; omega)), decide_eq_true hqs]
              rfl
            have HN := Lib.hid (HOK.out HROW.out)
            go_wp2
            go_round
            case rel => exact ⟨k + 1, by omega, by go_num, HN⟩
            case measure => simp [intOf]; omega
      · have HR : Hid (ctB s cs = false) := HBAD.out (by unfold rowB; dsimp only; rw [HQ.out, decide_eq_false hqs]; rfl)
        have hne := ne_cast hqs
        go_wp2
        go_ret
        exact ⟨ret_bool HR.out.symm, rfl⟩
    · have HR : Hid (ctB s cs = decide (n = s)) := by
        unfold Hid ctB
        rw [hn.out, all_yes (fun j hj => HALL.out j hj (by rw [hn.out] at hj; omega)), Bool.and_true]
      by_cases hns : n = s
      · have HE : Hid (ctB s cs = true) := HR.out.trans (decide_eq_true hns)
        subst hns
        go_wp2
        go_ret
        exact ⟨ret_bool (by rw [HE.out]; try simp), rfl⟩
      · have HE : Hid (ctB s cs = false) := HR.out.trans (decide_eq_false hns)
        have hne : ((n : Int) == (s : Int)) = false := by rw [beq_eq_false_iff_ne]; omega
        go_wp2
        go_ret
        exact ⟨ret_bool (by rw [HE.out]; try simp [hne]), rfl⟩

set_option maxHeartbeats 1000000 in
theorem areCosts_any (s : Nat) (a : Option Addr) (cs : List TInt64S) (n ca : Nat) (w : World) (hn : Hid (cs.length = n)) (ha : RN 1048576 1 cInt64S w a cs) (hmax : n ≤ 1048576) (hs : s ≤ 1048576) :
    Calls Try.prog 66 #[.slice a n ca, .int .i64 s] w fun e w' => e = .returned (.bool (ctB s cs)) ∧ w = w' := by
  have HA := Lib.hid ha
  clear ha
  by_cases hns : n = s
  · subst hns
    go_enter Try.func66, Try.ntmps66
    go_wp2
    go_loop [13] (fun iv => ∃ k : Nat, k ≤ n ∧ iv = .int .i64 k ∧ Hid (∀ j (h : j < cs.length), j < k → rowB n cs[j] = true)) (fun iv => n - (intOf iv).toNat)
    case atStart => exact ⟨0, by omega, rfl, fun j _ hj => by omega⟩
    case round =>
      obtain ⟨k, hk, rfl, HALL⟩ := hrel
      by_cases hlt : k < n
      · have hka : k < cs.length := by rw [hn.out]; exact hlt
        have HBAD : Hid (rowB n cs[k] = false → ctB n cs = false) := fun h => by unfold ctB; rw [all_no (f := rowB n) k hka h]; simp
        have HOK : Hid (rowB n cs[k] = true → ∀ j (h : j < cs.length), j < k + 1 → rowB n cs[j] = true) := fun ht j h hj => if e : j = k then (by subst e; exact ht) else HALL.out j h (by omega)
        obtain ⟨b, off, ai, ci, rfl, _, hri, hq, hc⟩ := HA.out.at_ k hka
        have x0 := hc 0 _ rfl
        simp only [Nat.mul_one, Nat.add_zero] at x0
        have HRI := Lib.hid hri
        clear hri hc
        generalize cs[k] = t at x0 HRI hq HBAD HOK
        obtain ⟨t1, tu⟩ := t
        dsimp only at x0 HRI hq HBAD HOK
        generalize hql : t1.length = q at x0 hq
        have HQ := Lib.hid hql
        clear hql
        have AW := areWithin_any ai t1 q ci 1000 w HQ HRI.out hq
        have hk0 : (0 : Int) ≤ (k : Int) := by omega
        have hk1 : (k : Int) < (n : Int) := by omega
        by_cases hqs : q = n
        · cases hw : t1.all (fun x => inB x 0 1000) with
          | false =>
            have HR : Hid (ctB n cs = false) := HBAD.out (by unfold rowB; dsimp only; rw [hw]; simp)
            rw [hw] at AW
            clear HBAD HOK hw
            subst hqs
            go_wp2_with (go_at_call 74; refine AW.mono ?_; rintro e w' ⟨rfl, rfl⟩)
            go_ret
            exact ⟨ret_bool HR.out.symm, rfl⟩
          | true =>
            have HN := Lib.hid (HOK.out (by unfold rowB; dsimp only; rw [hw, HQ.out, decide_eq_true hqs]; rfl))
            rw [hw] at AW
            clear HBAD HOK hw
            subst hqs
            go_wp2_with (go_at_call 74; refine AW.mono ?_; rintro e w' ⟨rfl, rfl⟩)
            go_round
            case rel => exact ⟨k + 1, by omega, by go_num, HN⟩
            case measure => simp [intOf]; omega
        · have HR : Hid (ctB n cs = false) := HBAD.out (by unfold rowB; dsimp only; rw [HQ.out, decide_eq_false hqs]; rfl)
          have hne := ne_cast hqs
          clear HBAD HOK
          go_wp2_with fail
          go_ret
          exact ⟨ret_bool HR.out.symm, rfl⟩
      · have HR : Hid (ctB n cs = true) := by
          unfold Hid ctB
          rw [hn.out, all_yes (fun j hj => HALL.out j hj (by rw [hn.out] at hj; omega)), decide_eq_true rfl]
          rfl
        go_wp2
        go_ret
        exact ⟨ret_bool HR.out.symm, rfl⟩
  · have HR : Hid (ctB s cs = false) := by unfold Hid ctB; rw [hn.out, decide_eq_false hns]; rfl
    have hne := ne_cast hns
    go_enter Try.func66, Try.ntmps66
    go_wp2
    go_ret
    exact ⟨ret_bool HR.out.symm, rfl⟩
end Go.Proofs.Ytabopjdcpllocaa
