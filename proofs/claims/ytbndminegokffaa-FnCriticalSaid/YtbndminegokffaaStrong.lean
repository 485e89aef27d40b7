/-
  IsStrong: the model's walk and the program's.
-/
import Derived.Test.YtbndminegokffaaReached
namespace Go.Proofs.Ytbndminegokffaa
open Go.RowKit

theorem rB_go {ts : List T3} {wo : Int} {S to k : Nat} (h : ∀ v, v < k → rB ts wo S to v = true) (h2 : rB ts wo S to k = true) : ∀ v, v < k + 1 → rB ts wo S to v = true := fun v hv => if e : v = k then (by subst e; exact h2) else h v (by omega)
theorem strongB_no {ts : List T3} {wo : Int} {S to v : Nat} (hto : to < S) (hv : v < S) (h : rB ts wo S to v = false) : strongB ts wo S = false := by
  cases hs : strongB ts wo S with
  | false => rfl
  | true =>
    unfold strongB at hs
    simp only [List.all_eq_true, List.mem_range] at hs
    rw [hs to hto v hv] at h
    cases h
theorem strongB_yes {ts : List T3} {wo : Int} {S : Nat} (h : ∀ to, to < S → ∀ v, v < S → rB ts wo S to v = true) : strongB ts wo S = true := by
  unfold strongB
  simp only [List.all_eq_true, List.mem_range]
  exact h
theorem reachK_all (ts : List T3) (S st : Nat) : (reachK ts S st S).length = S ↔ ∀ to, to < S → rB ts (-1) S to st = true := by
  unfold reachK
  rw [List.length_map]
  have := List.length_filter_eq_length_iff (l := List.range S) (p := fun to => rB ts (-1) S to st)
  rw [List.length_range] at this
  rw [this]
  simp
set_option maxRecDepth 20000 in
set_option maxHeartbeats 4000000 in
theorem l02Strong_any (p S : Nat) (a : Option Addr) (ts : List T3) (n ca : Nat) (wo : Int) (w : World) (hn : Hid (ts.length = n)) (ha : RT w a ts) (hnet : netB (S : Int) ts = true) (p0 : w.cell? ⟨p, 0, none⟩ = some (.int .i64 (S : Int))) (p1 : w.cell? ⟨p, 1, none⟩ = some (.slice a n ca)) :
    Calls Try.prog 19 #[.pointer (some ⟨p, 0, none⟩), .int .i64 wo] w fun e w' => e = .returned (.bool (strongB ts wo S)) ∧ Below w.heap.size w w' := by
  obtain ⟨hs2, hs10, hn24, _⟩ := netB_parts hnet
  have hS : S ≤ 10 := by omega
  have hpl := World.block_lt_of_cell? w _ p0
  simp only at hpl
  have NAT := nats_of hnet
  have HIFF : Hid (∀ to, to < S → ∀ v, (rB ts wo S to v = true ↔ Rch ts wo to v)) := fun to h v => rB_iff NAT h v
  have HP : Hid (∀ W, Below w.heap.size w W → W.cell? ⟨p, 0, none⟩ = some (.int .i64 (S : Int))) := fun W h => (h.cell (p := ⟨p, 0, none⟩) hpl).trans p0
  have FAR : Hid (∀ (to : Nat) W, to < S → Below w.heap.size w W → Calls Try.prog 29 #[.pointer (some ⟨p, 0, none⟩), .int .i64 (to : Int), .int .i64 wo] W (GivesFar ts wo S to W)) := fun to W h hW => l02Far_any p S a ts n ca to wo W hn (ha.below hW) hnet h ((hW.cell (p := ⟨p, 0, none⟩) hpl).trans p0) ((hW.cell (p := ⟨p, 1, none⟩) hpl).trans p1)
  clear ha hnet p0 p1 NAT
  go_enter Try.func19, Try.ntmps19
  go_wp2
  go_loopw [5] (fun iv wr => ∃ to : Nat, to ≤ S ∧ iv = .int .i64 (to : Int) ∧ Hid (∀ t, t < to → ∀ v, v < S → rB ts wo S t v = true) ∧ Hid (Below w.heap.size w wr)) (fun iv _ => S - (intOf iv).toNat)
  case atStart => exact ⟨0, by omega, rfl, fun t ht => by omega, Below.refl _ _⟩
  case round =>
    obtain ⟨to, hto, rfl, HALL, HB⟩ := hrel
    obtain ⟨wo1, hwo1⟩ : ∃ W, W = wr := ⟨wr, rfl⟩
    subst hwo1
    have q0 := HP.out _ HB.out
    by_cases hlt : to < S
    · have ht0 : (0 : Int) ≤ (to : Int) := by omega
      have ht1 : (to : Int) < (S : Int) := by omega
      have FK := FAR.out to wo1 hlt HB.out
      have HTO := Lib.hid (HIFF.out to hlt)
      go_wp2_with (go_at_call 29; refine FK.mono ?_; rintro e w2 ⟨l, g2, rfl, hll, hiff, hb2, ho2⟩)
      have HB2 := Lib.hid (HB.out.trans (hb2.mono HB.out.size))
      have HLL := Lib.hid hll
      have HL := Lib.hid hiff
      have HO2 := Lib.hid ho2
      clear FK hb2 hll hiff ho2 q0
      go_loopw [7] (fun iv wr => ∃ v q : Nat, v ≤ S ∧ iv = .int .i64 (v : Int) ∧ wr = w2.drewN q ∧ Hid (∀ u, u < v → rB ts wo S to u = true)) (fun iv _ => S - (intOf iv).toNat)
      case atStart => exact ⟨0, 0, by omega, rfl, rfl, fun u hu => by omega⟩
      case round =>
        obtain ⟨v, q, hv, rfl, rfl, HV⟩ := hrel
        by_cases hlt2 : v < S
        · have x1 := row_at HO2.out v (by rw [HLL.out]; exact hlt2)
          have hx := HL.out v (by rw [HLL.out]; exact hlt2)
          generalize l[v]'(by rw [HLL.out]; exact hlt2) = y at x1 hx
          have hv0 : (0 : Int) ≤ (v : Int) := by omega
          have hv1 : (v : Int) < (S : Int) := by omega
          cases d1 : decide (y < 0) with
          | true =>
            have HR := Lib.hid (strongB_no (ts := ts) (wo := wo) hlt hlt2 (by
              cases hr : rB ts wo S to v with
              | false => rfl
              | true => have h1 := hx.2 ((HTO.out v).1 hr); have h2 := of_decide_eq_true d1; omega))
            have HBF : Hid (Below w.heap.size w (w2.drewN q)) := Below.drewN' HB2.out q
            clear hx
            go_wp2
            go_ret
            exact ⟨ret_bool HR.out.symm, HBF.out⟩
          | false =>
            have HN := Lib.hid (rB_go HV.out ((HTO.out v).2 (hx.1 (by have := of_decide_eq_false d1; omega))))
            clear hx
            go_wp2
            go_roundw
            case rel => exact ⟨v + 1, q, by omega, by go_num, rfl, HN.out⟩
            case measure => simp [intOf]; omega
        · have hvS : v = S := by omega
          subst hvS
          have HN : Hid (∀ t, t < to + 1 → ∀ u, u < v → rB ts wo v t u = true) := fun t ht => if e : t = to then (by subst e; exact HV.out) else HALL.out t (by omega)
          have HBF : Hid (Below w.heap.size w (w2.drewN q)) := Below.drewN' HB2.out q
          go_wp2
          go_roundw
          case rel => exact ⟨to + 1, by omega, by go_num, HN.out, HBF.out⟩
          case measure => simp [intOf]; omega
    · have htS : to = S := by omega
      subst htS
      have HR := Lib.hid (strongB_yes (ts := ts) (wo := wo) HALL.out)
      go_wp2
      go_ret
      exact ⟨ret_bool HR.out.symm, HB.out⟩

set_option maxRecDepth 20000 in
set_option maxHeartbeats 4000000 in
theorem isStrong_any (S : Nat) (a : Option Addr) (ts : List T3) (n ca : Nat) (w : World) (hn : Hid (ts.length = n)) (ha : RT w a ts) (hnet : netB (S : Int) ts = true) :
    Calls Try.prog 16 #[.agg #[.int .i64 (S : Int), .slice a n ca]] w fun e w' => e = .returned (.bool (strongB ts (-1) S)) ∧ Below w.heap.size w w' := by
  obtain ⟨hs2, hs10, hn24, _⟩ := netB_parts hnet
  have hS : S ≤ 10 := by omega
  have RE : Hid (∀ (st : Nat) W, st < S → Below w.heap.size w W → Calls Try.prog 25 #[.agg #[.int .i64 (S : Int), .slice a n ca], .int .i64 (st : Int)] W (GivesReach ts S st W)) := fun st W h hW => reachedFrom_any S st a ts n ca W hn (ha.below hW) hnet h
  clear ha hnet
  go_enter Try.func16, Try.ntmps16
  go_wp2
  have P0 : Hid ((w.alloc (.cells #[.int .i64 (S : Int), .slice a n ca] 26)).cell? ⟨w.heap.size, 0, none⟩ = some (.int .i64 (S : Int)) ∧ (w.alloc (.cells #[.int .i64 (S : Int), .slice a n ca] 26)).cell? ⟨w.heap.size, 1, none⟩ = some (.slice a n ca)) := ⟨by simp [go_sem], by simp [go_sem]⟩
  go_loopw [6] (fun iv wr => ∃ st : Nat, st ≤ S ∧ iv = .int .i64 (st : Int) ∧ Hid (∀ t, t < st → ∀ to, to < S → rB ts (-1) S to t = true) ∧ Hid (Below (w.heap.size + 1) (w.alloc (.cells #[.int .i64 (S : Int), .slice a n ca] 26)) wr)) (fun iv _ => S - (intOf iv).toNat)
  case atStart => exact ⟨0, by omega, rfl, fun t ht => by omega, Below.refl _ _⟩
  case round =>
    obtain ⟨st, hst, rfl, HALL, HB⟩ := hrel
    have HBW : Hid (Below w.heap.size w wr) := Below.trans (show Below w.heap.size w (w.alloc (.cells #[.int .i64 (S : Int), .slice a n ca] 26)) from (by repeat (first | exact Below.refl _ _ | refine Below.alloc ?_ (by simp; try omega) _ | refine Below.setCell ?_ (by simp; try omega) _))) (HB.out.mono (by omega))
    by_cases hlt : st < S
    · have p0 := (HB.out.cell (p := ⟨w.heap.size, 0, none⟩) (by show w.heap.size < w.heap.size + 1; omega)).trans P0.out.1
      have p1 := (HB.out.cell (p := ⟨w.heap.size, 1, none⟩) (by show w.heap.size < w.heap.size + 1; omega)).trans P0.out.2
      have hws : w.heap.size + 1 ≤ wr.heap.size := by have := HB.out.size; simpa using this
      have ht0 : (0 : Int) ≤ (st : Int) := by omega
      have ht1 : (st : Int) < (S : Int) := by omega
      have CALL : Hid (∀ q, Calls Try.prog 25 #[.agg #[.int .i64 (S : Int), .slice a n ca], .int .i64 (st : Int)] (wr.drewN q) (GivesReach ts S st (wr.drewN q))) := fun q => RE.out st _ hlt (Below.drewN' HBW.out q)
      have HFULL := Lib.hid (reachK_all ts S st)
      have HLE := Lib.hid (reachK_len ts S st S)
      clear HBW
      go_wp2_with fail
      go_region_held3 (fun w' => w'.cell? ⟨w.heap.size, 0, none⟩ = some (.int .i64 (S : Int)) ∧ w'.cell? ⟨w.heap.size, 1, none⟩ = some (.slice a n ca)) (first | exact ⟨p0, p1⟩ | exact ⟨(hb5.cell (p := ⟨w.heap.size, 0, none⟩) (by show w.heap.size < wr.heap.size; omega)).trans p0, (hb5.cell (p := ⟨w.heap.size, 1, none⟩) (by show w.heap.size < wr.heap.size; omega)).trans p1⟩) (first | (go_at_call 25; refine (CALL.out 1).mono ?_; rintro e w5 ⟨g5, m5, c5, rfl, hb5, hm5, ho5⟩))
      all_goals
        have HM5 := Lib.hid hm5
        have HB5 : Hid (Below (w.heap.size + 1) (w.alloc (.cells #[.int .i64 (S : Int), .slice a n ca] 26)) w5) := (Below.drewN' HB.out 1).trans (hb5.mono hws)
        have HBW5 : Hid (Below w.heap.size w w5) := Below.trans (show Below w.heap.size w (w.alloc (.cells #[.int .i64 (S : Int), .slice a n ca] 26)) from (by repeat (first | exact Below.refl _ _ | refine Below.alloc ?_ (by simp; try omega) _ | refine Below.setCell ?_ (by simp; try omega) _))) (HB5.out.mono (by omega))
        clear ho5 hb5 hm5 CALL p0 p1
        by_cases hd : m5 < S
        · have hdz : (m5 : Int) < (S : Int) := by omega
          have HR : Hid (strongB ts (-1) S = false) := by
            have hne : ¬ ∀ to, to < S → rB ts (-1) S to st = true := fun h => by
              have h1 := HFULL.out.2 h
              rw [HM5.out] at h1
              omega
            obtain ⟨to, hto⟩ := Classical.not_forall.1 hne
            rw [Classical.not_imp] at hto
            exact strongB_no hto.1 hlt (by cases hr : rB ts (-1) S to st with
              | false => rfl
              | true => exact absurd hr hto.2)
          have d1 : decide ((m5 : Int) < (S : Int)) = true := decide_eq_true hdz
          go_wp2
          go_ret
          exact ⟨ret_bool HR.out.symm, HBW5.out⟩
        · have hdz : ¬ (m5 : Int) < (S : Int) := by omega
          have HN : Hid (∀ t, t < st + 1 → ∀ to, to < S → rB ts (-1) S to t = true) := fun t ht => if e : t = st then (by
            subst e
            refine HFULL.out.1 ?_
            have h1 := HLE.out
            have h3 := HM5.out
            omega) else HALL.out t (by omega)
          have d1 : decide ((m5 : Int) < (S : Int)) = false := decide_eq_false hdz
          go_wp2
          go_roundw
          case rel => exact ⟨st + 1, by omega, by go_num, HN.out, HB5.out⟩
          case measure => simp [intOf]; omega
    · have htS : st = S := by omega
      subst htS
      have HR := Lib.hid (strongB_yes (ts := ts) (wo := -1) (fun to hto v hv => HALL.out v hv to hto))
      go_wp2
      go_ret
      exact ⟨ret_bool HR.out.symm, HBW.out⟩
end Go.Proofs.Ytbndminegokffaa
