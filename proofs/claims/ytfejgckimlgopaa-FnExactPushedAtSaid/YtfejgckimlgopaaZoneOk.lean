/-
  ValidZoned: the model's walk (l09Ok) and the program's: both return whether the zones are valid.
-/
import Derived.Test.YtfejgckimlgopaaZoneLeaf
import Derived.Test.YtfejgckimlgopaaRegHand
namespace Go.Proofs.Ytfejgckimlgopaa
open Go.RowKit

theorem zonB_z {t : TZoned} (h : inB t.1 1 8 = false) : zonB t = false := zonB_no fun p => by have := p.1; have := p.2.1; unfold inB at h; simp at h; omega
theorem zonB_n {t : TZoned} (h : 24 < t.2.1.length) : zonB t = false := zonB_no fun p => by have := p.2.2.1; omega
theorem zonB_m {t : TZoned} (h : 60 < t.2.2.length) : zonB t = false := zonB_no fun p => by have := p.2.2.2.1; omega
theorem zonB_of' {t : TZoned} {k : Nat} (hk : k < t.2.1.length) (h : inB t.2.1[k] 0 (t.1 - 1) = false) : zonB t = false := zonB_no fun p => by
  have h5 := p.2.2.2.2.1
  rw [List.all_eq_true] at h5
  have := h5 _ (List.getElem_mem hk)
  rw [h] at this
  exact absurd this (by decide)
theorem zonB_c {t : TZoned} {k : Nat} (hk : k < t.2.2.length) (h : chB t.1 t.2.2[k] = false) : zonB t = false := zonB_no fun p => by
  have := p.2.2.2.2.2.1 k hk
  rw [h] at this
  exact absurd this (by decide)
theorem zonB_l {t : TZoned} {k : Nat} (hk : k + 1 < t.2.2.length) (h : ¬ ltC (t.2.2[k]'(by omega)) t.2.2[k + 1]) : zonB t = false := zonB_no fun p => h (p.2.2.2.2.2.2 k hk)
/-- The first k changes are right. -/
def OkTo (t : TZoned) (k : Nat) : Prop := ∀ j (h : j < t.2.2.length), j < k → chB t.1 t.2.2[j] = true ∧ ∀ q (e : j = q + 1), ltC (t.2.2[q]'(by omega)) t.2.2[j]
theorem OkTo.zero (t : TZoned) : OkTo t 0 := fun j _ hj => by omega
theorem OkTo.next {t : TZoned} {k : Nat} (h : OkTo t k) (hk : k < t.2.2.length) (h1 : chB t.1 t.2.2[k] = true) (h2 : ∀ q (e : k = q + 1), ltC (t.2.2[q]'(by omega)) t.2.2[k]) : OkTo t (k + 1) := by
  intro j hj hjk
  by_cases e : j = k
  · subst e; exact ⟨h1, h2⟩
  · exact h j hj (by omega)
theorem zonB_all {t : TZoned} (h1 : inB t.1 1 8 = true) (h2 : ¬ 24 < t.2.1.length) (h3 : ¬ 60 < t.2.2.length) (h4 : OkTo t t.2.2.length) : zonB t = (t.2.1.all fun k => inB k 0 (t.1 - 1)) := by
  cases ha : (t.2.1.all fun k => inB k 0 (t.1 - 1)) with
  | true =>
    unfold inB at h1
    simp at h1
    exact zonB_yes ⟨h1.1, h1.2, by omega, by omega, ha, fun i hi => (h4 i hi hi).1, fun i hi => (h4 (i + 1) hi hi).2 i rfl⟩
  | false => exact zonB_no fun p => by rw [p.2.2.2.2.1] at ha; exact absurd ha (by decide)
theorem keepS {w w' : World} (hb : Below w.heap.size w w') {p : Addr} {v : Value} (h : w.cell? p = some v) : w'.cell? p = some v := (hb.cell (World.block_lt_of_cell? w _ h)).trans h

set_option maxRecDepth 20000 in
set_option maxHeartbeats 4000000 in
theorem l09Ok_any (zb : Nat) (t : TZoned) (a b : Option Addr) (n c m d : Nat) (w : World) (hn : Hid (t.2.1.length = n)) (ha : RI w a t.2.1) (hs : n ≤ 1048576) (hm : Hid (t.2.2.length = m)) (hb : RR 3 cChange w b t.2.2) (hs2 : m ≤ 1048576)
    (p0 : w.cell? ⟨zb, 0, none⟩ = some (.int .i64 t.1)) (p1 : w.cell? ⟨zb, 1, none⟩ = some (.slice a n c)) (p2 : w.cell? ⟨zb, 2, none⟩ = some (.slice b m d)) :
    Calls Try.prog 90 #[.pointer (some ⟨zb, 0, none⟩)] w fun e w' => e = .returned (.bool (zonB t)) ∧ Below w.heap.size w w' := by
  have HA : Hid (∀ w', Below w.heap.size w w' → RI w' a t.2.1) := fun w' h => ha.below h
  have HB : Hid (∀ w', Below w.heap.size w w' → RR 3 cChange w' b t.2.2) := fun w' h => hb.below h
  have HP : Hid (∀ w', Below w.heap.size w w' → w'.cell? ⟨zb, 0, none⟩ = some (.int .i64 t.1) ∧ w'.cell? ⟨zb, 1, none⟩ = some (.slice a n c) ∧ w'.cell? ⟨zb, 2, none⟩ = some (.slice b m d)) := fun w' h => ⟨keepS h p0, keepS h p1, keepS h p2⟩
  clear ha hb
  cases h1 : inB t.1 1 8 with
  | false =>
    have HR := Lib.hid (zonB_z h1)
    go_enter Try.func90, Try.ntmps90
    go_wp2_with (go_at_call 71; refine (l00In_any _ _ _ _).mono ?_; rintro e w' ⟨rfl, rfl⟩)
    go_ret
    exact ⟨ret_bool HR.out.symm, Below.refl _ _⟩
  | true =>
    by_cases h2 : 24 < n
    · have HR := Lib.hid (zonB_n (t := t) (by rw [hn.out]; exact h2))
      go_enter Try.func90, Try.ntmps90
      go_wp2_with (go_at_call 71; refine (l00In_any _ _ _ _).mono ?_; rintro e w' ⟨rfl, rfl⟩)
      go_ret
      exact ⟨ret_bool HR.out.symm, Below.refl _ _⟩
    by_cases h3 : 60 < m
    · have HR := Lib.hid (zonB_m (t := t) (by rw [hm.out]; exact h3))
      go_enter Try.func90, Try.ntmps90
      go_wp2_with (go_at_call 71; refine (l00In_any _ _ _ _).mono ?_; rintro e w' ⟨rfl, rfl⟩)
      go_ret
      exact ⟨ret_bool HR.out.symm, Below.refl _ _⟩
    have hz : 1 ≤ t.1 ∧ t.1 ≤ 8 := by unfold inB at h1; simpa using h1
    have HALLC : Hid (∀ hall : (∀ k (h : k < t.2.1.length), inB t.2.1[k] 0 (t.1 - 1) = true), OkTo t t.2.2.length → zonB t = true) := fun hall ho => by
      rw [zonB_all h1 (by rw [hn.out]; exact h2) (by rw [hm.out]; exact h3) ho]
      rw [List.all_eq_true]
      intro x hx
      obtain ⟨k, hk, rfl⟩ := List.getElem_of_mem hx
      exact hall k hk
    go_enter Try.func90, Try.ntmps90
    go_wp2_with (go_at_call 71; refine (l00In_any _ _ _ _).mono ?_; rintro e w' ⟨rfl, rfl⟩)
    clear p0 p1 p2
    go_loopw [3] (fun i wr => ∃ k : Nat, k ≤ n ∧ i = .int .i64 k ∧ Hid (Below w.heap.size w wr) ∧ Hid (∀ j (h : j < t.2.1.length), j < k → inB t.2.1[j] 0 (t.1 - 1) = true)) (fun i _ => n - (intOf i).toNat)
    case atStart => exact ⟨0, by omega, rfl, Below.refl _ _, fun j _ hj => by omega⟩
    case round =>
      obtain ⟨k, hk, rfl, HBEL, HALL⟩ := hrel
      obtain ⟨p0, p1, p2⟩ := HP.out _ HBEL.out
      have hzb : zb < wr.heap.size := World.block_lt_of_cell? _ _ p0
      have hws := HBEL.out.size
      by_cases hlt : k < n
      · have hka : k < t.2.1.length := by rw [hn.out]; exact hlt
        have HBAD : Hid (inB t.2.1[k] 0 (t.1 - 1) = false → zonB t = false) := fun h => zonB_of' hka h
        have HOK : Hid (inB t.2.1[k] 0 (t.1 - 1) = true → ∀ j (h : j < t.2.1.length), j < k + 1 → inB t.2.1[j] 0 (t.1 - 1) = true) := fun ht j h hj => if e : j = k then (by subst e; exact ht) else HALL.out j h (by omega)
        obtain ⟨ba, oa, rfl, hbl, x0⟩ := (HA.out _ HBEL.out).at_ k hka
        generalize t.2.1[k] = u at x0 HBAD HOK
        have hk0 : (0 : Int) ≤ (k : Int) := by omega
        have hk1 : (k : Int) < (n : Int) := by omega
        have CI : Hid (∀ W, Calls Try.prog 71 #[.int .i64 u, .int .i64 0, .int .i64 (IntKind.i64.wrap (t.1 - 1))] W fun e w' => e = .returned (.bool (inB u 0 (t.1 - 1))) ∧ W = w') := fun W => by
          rw [show IntKind.i64.wrap (t.1 - 1) = t.1 - 1 from IntWalk.i64_in _ (by omega)]
          exact l00In_any _ _ _ _
        cases ht : inB u 0 (t.1 - 1) with
        | true =>
          have HOK2 := Lib.hid (HOK.out ht)
          clear HOK HBAD
          go_wp2_with fail
          go_region_held3 (fun w' => w'.cell? ⟨zb, 0, none⟩ = some (.int .i64 t.1) ∧ w'.cell? ⟨zb, 1, none⟩ = some (.slice (some ⟨ba, oa, none⟩) n c) ∧ w'.cell? ⟨ba, oa + k, none⟩ = some (.int .i64 u)) (first | exact ⟨p0, p1, x0⟩)
            (first | (go_at_call 71; refine (CI.out _).mono ?_; rintro e w' ⟨rfl, rfl⟩; rw [ht]))
          go_wp2
          go_roundw
          case rel => exact ⟨k + 1, by omega, by go_num, HBEL.out.drew, HOK2⟩
          case measure => simp [intOf]; omega
        | false =>
          have HR := Lib.hid (HBAD.out ht)
          clear HOK HBAD
          go_wp2_with fail
          go_region_held3 (fun w' => w'.cell? ⟨zb, 0, none⟩ = some (.int .i64 t.1) ∧ w'.cell? ⟨zb, 1, none⟩ = some (.slice (some ⟨ba, oa, none⟩) n c) ∧ w'.cell? ⟨ba, oa + k, none⟩ = some (.int .i64 u)) (first | exact ⟨p0, p1, x0⟩)
            (first | (go_at_call 71; refine (CI.out _).mono ?_; rintro e w' ⟨rfl, rfl⟩; rw [ht]))
          go_wp2
          go_ret
          exact ⟨ret_bool HR.out.symm, HBEL.out.drew⟩
      · have HALL2 : Hid (OkTo t t.2.2.length → zonB t = true) := fun ho => HALLC.out (fun j hj => HALL.out j hj (by rw [hn.out] at hj; omega)) ho
        clear HALL HALLC
        go_wp2
        clear p0 p1 p2 hzb hws
        obtain ⟨wo, hwo⟩ : ∃ wo, wo = wr := ⟨wr, rfl⟩
        subst hwo
        go_loopw [4] (fun i wr => ∃ k : Nat, k ≤ m ∧ i = .int .i64 k ∧ Hid (Below w.heap.size w wr) ∧ Hid (OkTo t k)) (fun i _ => m - (intOf i).toNat)
        case atStart => exact ⟨0, by omega, rfl, HBEL, OkTo.zero t⟩
        case round =>
          clear hk hlt
          obtain ⟨k, hk, rfl, HBEL, HALL⟩ := hrel
          obtain ⟨p0, p1, p2⟩ := HP.out _ HBEL.out
          have hzb : zb < wr.heap.size := World.block_lt_of_cell? _ _ p0
          have hws := HBEL.out.size
          by_cases hlt : k < m
          · have hka : k < t.2.2.length := by rw [hm.out]; exact hlt
            have HBAD : Hid (chB t.1 t.2.2[k] = false → zonB t = false) := fun h => zonB_c hka h
            have HLT : Hid (∀ q (e : k = q + 1), ¬ ltC (t.2.2[q]'(by omega)) t.2.2[k] → zonB t = false) := fun q e h => by subst e; exact zonB_l hka h
            have HOK : Hid (chB t.1 t.2.2[k] = true → (∀ q (e : k = q + 1), ltC (t.2.2[q]'(by omega)) t.2.2[k]) → OkTo t (k + 1)) := fun h1 h2 => HALL.out.next hka h1 h2
            obtain ⟨bb, ob, rfl, hbl, hx⟩ := (HB.out _ HBEL.out).at_ k hka
            have HX := Lib.hid (HB.out _ HBEL.out)
            have x0 := hx 0 _ rfl
            have x1 := hx 1 _ rfl
            have x2 := hx 2 _ rfl
            simp only [Nat.add_zero] at x0
            clear hx
            have hk0 : (0 : Int) ≤ (k : Int) := by omega
            have hk1 : (k : Int) < (m : Int) := by omega
            cases ht : chB t.1 t.2.2[k] with
            | false =>
              have HR := Lib.hid (HBAD.out ht)
              clear HOK HBAD HLT HX
              generalize t.2.2[k] = u at x0 x1 x2 ht
              go_wp2_with fail
              go_region_held3 (fun w' => w'.cell? ⟨zb, 0, none⟩ = some (.int .i64 t.1) ∧ w'.cell? ⟨zb, 2, none⟩ = some (.slice (some ⟨bb, ob, none⟩) m d)) (first | exact ⟨p0, p2⟩)
                (first | (go_at_call 99; refine (l09Change_any u t.1 _ _ _ (by omega) (by exact x0) (by exact x1) (by exact x2)).mono ?_; rintro e w' ⟨rfl, rfl⟩))
              (try rw [ht])
              go_wp2
              go_ret
              exact ⟨ret_bool HR.out.symm, HBEL.out.drew⟩
            | true =>
              by_cases hkz : k = 0
              · have HOK2 := Lib.hid (HOK.out ht (fun q e => by omega))
                clear HOK HBAD HLT HX
                generalize t.2.2[k] = u at x0 x1 x2 ht
                subst hkz
                simp only [Nat.zero_mul, Nat.add_zero] at x0 x1 x2
                have hm0 : (0 : Int) < (m : Int) := by omega
                clear hk hk0 hk1 hlt hka
                go_wp2_with fail
                go_region_held3 (fun w' => w'.cell? ⟨zb, 0, none⟩ = some (.int .i64 t.1) ∧ w'.cell? ⟨zb, 2, none⟩ = some (.slice (some ⟨bb, ob, none⟩) m d)) (first | exact ⟨p0, p2⟩)
                  (first | (go_at_call 99; refine (l09Change_any u t.1 _ _ _ (by omega) (by exact x0) (by exact x1) (by exact x2)).mono ?_; rintro e w' ⟨rfl, rfl⟩))
                (try rw [ht])
                go_wp2
                go_roundw
                case rel => exact ⟨1, by omega, by go_num, HBEL.out.drew, HOK2⟩
                case measure => simp [intOf]; omega
              · have hqa : k - 1 < t.2.2.length := by omega
                have HLT2 := Lib.hid (HLT.out (k - 1) (by omega))
                have HOK2 : Hid (ltC (t.2.2[k - 1]'hqa) t.2.2[k] → OkTo t (k + 1)) := fun h => HOK.out ht (fun q' e => by
                  have : q' = k - 1 := by omega
                  subst this
                  exact h)
                obtain ⟨b2, o2, hab, hbl2, hy⟩ := HX.out.at_ (k - 1) hqa
                injection hab with hab
                injection hab with e1 e2
                subst e1 e2
                have y0 := hy 0 _ rfl
                have y1 := hy 1 _ rfl
                have y2 := hy 2 _ rfl
                simp only [Nat.add_zero] at y0
                clear hy HOK HBAD HLT HX
                generalize t.2.2[k] = u at x0 x1 x2 ht HLT2 HOK2
                generalize t.2.2[k - 1] = v at y0 y1 y2 HLT2 HOK2
                obtain ⟨u1, u2, u3⟩ := u
                obtain ⟨v1, v2, v3⟩ := v
                dsimp only at x0 x1 x2 y0 y1 y2
                have hkb : ((k : Int) == 0) = false := by simp [hkz]
                have hq0 : (0 : Int) ≤ (k : Int) - 1 := by omega
                have hq1 : (k : Int) - 1 < (m : Int) := by omega
                have h4 : (¬ ltC (v1, v2, v3) (u1, u2, u3) ∧ u1 < v1) ∨ (¬ ltC (v1, v2, v3) (u1, u2, u3) ∧ ¬ u1 < v1 ∧ (v1 == u1) = true ∧ u2 ≤ v2) ∨ (ltC (v1, v2, v3) (u1, u2, u3) ∧ ¬ u1 < v1 ∧ (v1 == u1) = true ∧ ¬ u2 ≤ v2) ∨ (ltC (v1, v2, v3) (u1, u2, u3) ∧ ¬ u1 < v1 ∧ (v1 == u1) = false) := by
                  unfold ltC
                  simp
                  omega
                clear hkz
                go_wp2_with fail
                go_region_held3 (fun w' => w'.cell? ⟨zb, 0, none⟩ = some (.int .i64 t.1) ∧ w'.cell? ⟨zb, 2, none⟩ = some (.slice (some ⟨bb, ob, none⟩) m d)) (first | exact ⟨p0, p2⟩)
                  (first | (go_at_call 99; refine (l09Change_any (u1, u2, u3) t.1 _ _ _ (by omega) (by exact x0) (by exact x1) (by exact x2)).mono ?_; rintro e w' ⟨rfl, rfl⟩))
                (try rw [ht])
                rcases h4 with ⟨hl, g1⟩ | ⟨hl, g1, g2, g3⟩ | ⟨hl, g1, g2, g3⟩ | ⟨hl, g1, g2⟩
                · have HR := Lib.hid (HLT2.out hl)
                  clear HLT2 HOK2 hl
                  go_wp2
                  go_ret
                  exact ⟨ret_bool HR.out.symm, (by repeat (first | exact HBEL.out | refine Below.drew ?_ | refine Below.alloc ?_ (by first | omega | (simp; done) | (simp; omega)) _ | refine Below.setCell ?_ (by first | omega | (simp; done) | (simp; omega)) _))⟩
                · have HR := Lib.hid (HLT2.out hl)
                  clear HLT2 HOK2 hl
                  go_wp2
                  go_ret
                  exact ⟨ret_bool HR.out.symm, (by repeat (first | exact HBEL.out | refine Below.drew ?_ | refine Below.alloc ?_ (by first | omega | (simp; done) | (simp; omega)) _ | refine Below.setCell ?_ (by first | omega | (simp; done) | (simp; omega)) _))⟩
                · have HN := Lib.hid (HOK2.out hl)
                  clear HLT2 HOK2 hl
                  go_wp2
                  go_roundw
                  case rel => exact ⟨k + 1, by omega, by go_num, (by repeat (first | exact HBEL.out | refine Below.drew ?_ | refine Below.alloc ?_ (by first | omega | (simp; done) | (simp; omega)) _ | refine Below.setCell ?_ (by first | omega | (simp; done) | (simp; omega)) _)), HN⟩
                  case measure => simp [intOf]; omega
                · have HN := Lib.hid (HOK2.out hl)
                  clear HLT2 HOK2 hl
                  go_wp2
                  go_roundw
                  case rel => exact ⟨k + 1, by omega, by go_num, (by repeat (first | exact HBEL.out | refine Below.drew ?_ | refine Below.alloc ?_ (by first | omega | (simp; done) | (simp; omega)) _ | refine Below.setCell ?_ (by first | omega | (simp; done) | (simp; omega)) _)), HN⟩
                  case measure => simp [intOf]; omega
          · have HR := Lib.hid (HALL2.out (by rw [hm.out]; have : k = m := by omega
                                              subst this; exact HALL.out))
            go_wp2
            go_ret
            exact ⟨ret_bool HR.out.symm, HBEL.out⟩

theorem specValidZoned_any (w : World) {a b : Option Addr} {n c m d : Nat} (t : TZoned) (hn : Hid (t.2.1.length = n)) (ha : RI w a t.2.1) (hs : n ≤ 1048576) (hm : Hid (t.2.2.length = m)) (hb : RR 3 cChange w b t.2.2) (hs2 : m ≤ 1048576) (_wf : Hid (wfZoned t)) :
    Calls Try.prog 35 #[.agg #[.int .i64 t.1, .slice a n c, .slice b m d]] w fun e w' => e = .returned (.bool (zonB t)) ∧ Below w.heap.size w w' := by
  have HA : Hid (∀ w', Below w.heap.size w w' → RI w' a t.2.1) := fun w' h => ha.below h
  have HB : Hid (∀ w', Below w.heap.size w w' → RR 3 cChange w' b t.2.2) := fun w' h => hb.below h
  clear ha hb
  go_enter Try.func35, Try.ntmps35
  go_wp2_with fail
  refine (l09Ok_any _ t a b n c m d _ hn (HA.out _ (by repeat (first | exact Below.refl _ _ | refine Below.alloc ?_ (by simp; try omega) _ | refine Below.setCell ?_ (by simp; try omega) _))) hs hm (HB.out _ (by repeat (first | exact Below.refl _ _ | refine Below.alloc ?_ (by simp; try omega) _ | refine Below.setCell ?_ (by simp; try omega) _))) hs2 (by simp [go_sem]) (by simp [go_sem]) (by simp [go_sem])).mono ?_
  rintro e w1 ⟨rfl, hb1⟩
  go_wp2
  go_ret
  exact ⟨rfl, Below.trans (by repeat (first | exact Below.refl _ _ | refine Below.alloc ?_ (by simp; try omega) _ | refine Below.setCell ?_ (by simp; try omega) _)) (hb1.mono (by simp))⟩

set_option maxRecDepth 20000 in
set_option maxHeartbeats 4000000 in
theorem implValidZoned_any (w : World) {a b : Option Addr} {n c m d : Nat} (t : TZoned) (hn : Hid (t.2.1.length = n)) (ha : RI w a t.2.1) (hs : n ≤ 1048576) (hm : Hid (t.2.2.length = m)) (hb : RR 3 cChange w b t.2.2) (hs2 : m ≤ 1048576) (_wf : Hid (wfZoned t)) :
    Calls Try.prog 37 #[.agg #[.int .i64 t.1, .slice a n c, .slice b m d]] w fun e w' => e = .returned (.bool (zonB t)) ∧ Below w.heap.size w w' := by
  have HA : Hid (∀ w', Below w.heap.size w w' → RI w' a t.2.1) := fun w' h => ha.below h
  have HB : Hid (∀ w', Below w.heap.size w w' → RR 3 cChange w' b t.2.2) := fun w' h => hb.below h
  have HP : Hid (∀ w', Below (w.alloc (.cells #[.int .i64 t.1, .slice a n c, .slice b m d] 27)).heap.size (w.alloc (.cells #[.int .i64 t.1, .slice a n c, .slice b m d] 27)) w' → w'.cell? ⟨w.heap.size, 0, none⟩ = some (.int .i64 t.1) ∧ w'.cell? ⟨w.heap.size, 1, none⟩ = some (.slice a n c) ∧ w'.cell? ⟨w.heap.size, 2, none⟩ = some (.slice b m d)) := fun w' h => ⟨keepS h (by simp [go_sem]), keepS h (by simp [go_sem]), keepS h (by simp [go_sem])⟩
  have HW : Hid (Below w.heap.size w (w.alloc (.cells #[.int .i64 t.1, .slice a n c, .slice b m d] 27))) := (Below.refl _ _).alloc (Nat.le_refl _) _
  clear ha hb
  cases h1 : inB t.1 1 8 with
  | false =>
    have HR := Lib.hid (zonB_z h1)
    go_enter Try.func37, Try.ntmps37
    go_wp2_with (go_at_call 65; refine (isWithin_any _ _ _ _).mono ?_; rintro e w' ⟨rfl, rfl⟩)
    go_ret
    exact ⟨ret_bool HR.out.symm, (by repeat (first | exact Below.refl _ _ | refine Below.alloc ?_ (by simp; try omega) _ | refine Below.setCell ?_ (by simp; try omega) _))⟩
  | true =>
    by_cases h2 : 24 < n
    · have HR := Lib.hid (zonB_n (t := t) (by rw [hn.out]; exact h2))
      go_enter Try.func37, Try.ntmps37
      go_wp2_with (go_at_call 65; refine (isWithin_any _ _ _ _).mono ?_; rintro e w' ⟨rfl, rfl⟩)
      go_ret
      exact ⟨ret_bool HR.out.symm, (by repeat (first | exact Below.refl _ _ | refine Below.alloc ?_ (by simp; try omega) _ | refine Below.setCell ?_ (by simp; try omega) _))⟩
    by_cases h3 : 60 < m
    · have HR := Lib.hid (zonB_m (t := t) (by rw [hm.out]; exact h3))
      go_enter Try.func37, Try.ntmps37
      go_wp2_with (go_at_call 65; refine (isWithin_any _ _ _ _).mono ?_; rintro e w' ⟨rfl, rfl⟩)
      go_ret
      exact ⟨ret_bool HR.out.symm, (by repeat (first | exact Below.refl _ _ | refine Below.alloc ?_ (by simp; try omega) _ | refine Below.setCell ?_ (by simp; try omega) _))⟩
    have hz : 1 ≤ t.1 ∧ t.1 ≤ 8 := by unfold inB at h1; simpa using h1
    have HALLC : Hid (OkTo t t.2.2.length → zonB t = (t.2.1.all fun k => inB k 0 (t.1 - 1))) := fun ho => zonB_all h1 (by rw [hn.out]; exact h2) (by rw [hm.out]; exact h3) ho
    go_enter Try.func37, Try.ntmps37
    go_wp2_with (go_at_call 65; refine (isWithin_any _ _ _ _).mono ?_; rintro e w' ⟨rfl, rfl⟩)
    obtain ⟨W1, hW1⟩ : ∃ W1, W1 = w.alloc (.cells #[.int .i64 t.1, .slice a n c, .slice b m d] 27) := ⟨_, rfl⟩
    have hsz1 : W1.heap.size = w.heap.size + 1 := by rw [hW1]; simp
    rw [← hW1] at HP HW ⊢
    clear hW1
    go_loopw [24] (fun i wr => ∃ k : Nat, k ≤ m ∧ i = .int .i64 k ∧ Hid (Below W1.heap.size W1 wr) ∧ Hid (OkTo t k)) (fun i _ => m - (intOf i).toNat)
    case atStart => exact ⟨0, by omega, rfl, Below.refl _ _, OkTo.zero t⟩
    case round =>
      obtain ⟨k, hk, rfl, HBEL, HALL⟩ := hrel
      obtain ⟨p0, p1, p2⟩ := HP.out _ HBEL.out
      have hws := HBEL.out.size
      have hzb : w.heap.size < wr.heap.size := by omega
      have HWR : Hid (Below w.heap.size w wr) := HW.out.trans (HBEL.out.mono (by omega))
      by_cases hlt : k < m
      · have hka : k < t.2.2.length := by rw [hm.out]; exact hlt
        have HBAD : Hid (chB t.1 t.2.2[k] = false → zonB t = false) := fun h => zonB_c hka h
        have HLT : Hid (∀ q (e : k = q + 1), ¬ ltC (t.2.2[q]'(by omega)) t.2.2[k] → zonB t = false) := fun q e h => by subst e; exact zonB_l hka h
        have HOK : Hid (chB t.1 t.2.2[k] = true → (∀ q (e : k = q + 1), ltC (t.2.2[q]'(by omega)) t.2.2[k]) → OkTo t (k + 1)) := fun h1 h2 => HALL.out.next hka h1 h2
        obtain ⟨bb, ob, rfl, hbl, hx⟩ := (HB.out _ HWR.out).at_ k hka
        have HX := Lib.hid (HB.out _ HWR.out)
        have x0 := hx 0 _ rfl
        have x1 := hx 1 _ rfl
        have x2 := hx 2 _ rfl
        simp only [Nat.add_zero] at x0
        clear hx
        have hk0 : (0 : Int) ≤ (k : Int) := by omega
        have hk1 : (k : Int) < (m : Int) := by omega
        cases ht : chB t.1 t.2.2[k] with
        | false =>
          have HR := Lib.hid (HBAD.out ht)
          clear HOK HBAD HLT HX
          generalize t.2.2[k] = u at x0 x1 x2 ht
          have HIO : Hid (∀ W, Calls Try.prog 92 #[.agg #[.int .i64 u.1, .int .i64 u.2.1, .int .i64 u.2.2], .int .i64 t.1] W fun e w' => e = .returned (.bool false) ∧ Below W.heap.size W w') := fun W => by have := isOf_any u t.1 W (by omega); rw [ht] at this; exact this
          clear ht
          go_wp2_with fail
          refine wp_region_held_drew (S := (fun w' => Hid (Below W1.heap.size W1 w') ∧ w'.cell? ⟨w.heap.size, 0, none⟩ = some (.int .i64 t.1) ∧ w'.cell? ⟨wr.heap.size, 0, none⟩ = some (.int .i64 u.1) ∧ w'.cell? ⟨wr.heap.size, 1, none⟩ = some (.int .i64 u.2.1) ∧ w'.cell? ⟨wr.heap.size, 2, none⟩ = some (.int .i64 u.2.2))) (by kernel_rfl) ?_ (fun hHeld => ?_)
          · (try dsimp only); exact ⟨(by repeat (first | exact HBEL.out | refine Below.drew ?_ | refine Below.alloc ?_ (by first | omega | (simp; done) | (simp; omega)) _ | refine Below.setCell ?_ (by first | omega | (simp; done) | (simp; omega)) _)), by simp [go_sem, hzb, p0], by simp [go_sem], by simp [go_sem], by simp [go_sem]⟩
          refine takeL (i := 0) (v := ?_) rfl (by kernel_rfl) (by kernel_rfl) (by kernel_rfl) (fun _ _ _ h => h) (Or.inl ⟨by rfl, ?_⟩) hHeld ?_
          rotate_left
          · intro w hSw; (try dsimp only at hSw); go_simp; (try with_reducible rfl)
          (try simp only [Act.put, List.setIfInBounds_toArray, List.set_cons_zero, List.set_cons_succ])
          refine takeL (i := 1) (v := ?_) rfl (by kernel_rfl) (by kernel_rfl) (by kernel_rfl) (fun _ _ _ h => h) (Or.inl ⟨by rfl, ?_⟩) hHeld ?_
          rotate_left
          · intro w hSw; (try dsimp only at hSw); go_simp; (try with_reducible rfl)
          (try simp only [Act.put, List.setIfInBounds_toArray, List.set_cons_zero, List.set_cons_succ])
          refine takeL (i := 2) (v := ?_) rfl (by kernel_rfl) (by kernel_rfl) (by kernel_rfl) (fun _ _ _ h => h) (Or.inl ⟨by rfl, ?_⟩) hHeld ?_
          rotate_left
          · intro w hSw; (try dsimp only at hSw); go_simp; (try with_reducible rfl)
          (try simp only [Act.put, List.setIfInBounds_toArray, List.set_cons_zero, List.set_cons_succ])
          refine wpAnyH_ready (rs := [3]) (by kernel_rfl) (by simp) ?_
          refine readyL rfl (fun K hK => ?_) AllReadyH.nil
          go_simp
          go_at_call 92; refine (HIO.out _).mono ?_; rintro e w2 ⟨rfl, hb2⟩
          refine hK.out _ _ ?_ (fun hHeld => ?_)
          · (try dsimp only); exact ⟨two_worlds hHeld.1.out hb2, keepS hb2 hHeld.2.1, keepS hb2 hHeld.2.2.1, keepS hb2 hHeld.2.2.2.1, keepS hb2 hHeld.2.2.2.2⟩
          clear hK K
          (try simp only [Act.put, List.setIfInBounds_toArray, List.set_cons_zero, List.set_cons_succ])
          refine takeL (i := 4) (v := ?_) rfl (by kernel_rfl) (by kernel_rfl) (by kernel_rfl) (fun _ _ _ h => h) (Or.inl ⟨by rfl, ?_⟩) hHeld ?_
          rotate_left
          · intro w hSw; (try dsimp only at hSw); go_simp; (try with_reducible rfl)
          (try simp only [Act.put, List.setIfInBounds_toArray, List.set_cons_zero, List.set_cons_succ])
          refine takeL (i := 5) (v := ?_) rfl (by kernel_rfl) (by kernel_rfl) (by kernel_rfl) (fun _ _ _ h => h) (Or.inl ⟨by rfl, ?_⟩) hHeld ?_
          rotate_left
          · intro w hSw; (try dsimp only at hSw); go_simp; (try with_reducible rfl)
          (try simp only [Act.put, List.setIfInBounds_toArray, List.set_cons_zero, List.set_cons_succ])
          refine takeL (i := 6) (v := undef) rfl (by kernel_rfl) (by kernel_rfl) (by kernel_rfl) (fun _ _ _ h => h) (Or.inr ⟨by rfl, rfl⟩) hHeld ?_
          (try simp only [Act.put, List.setIfInBounds_toArray, List.set_cons_zero, List.set_cons_succ])
          refine takeL (i := 7) (v := undef) rfl (by kernel_rfl) (by kernel_rfl) (by kernel_rfl) (fun _ _ _ h => h) (Or.inr ⟨by rfl, rfl⟩) hHeld ?_
          (try simp only [Act.put, List.setIfInBounds_toArray, List.set_cons_zero, List.set_cons_succ])
          refine takeL (i := 8) (v := undef) rfl (by kernel_rfl) (by kernel_rfl) (by kernel_rfl) (fun _ _ _ h => h) (Or.inr ⟨by rfl, rfl⟩) hHeld ?_
          (try simp only [Act.put, List.setIfInBounds_toArray, List.set_cons_zero, List.set_cons_succ])
          refine takeL (i := 9) (v := undef) rfl (by kernel_rfl) (by kernel_rfl) (by kernel_rfl) (fun _ _ _ h => h) (Or.inr ⟨by rfl, rfl⟩) hHeld ?_
          (try simp only [Act.put, List.setIfInBounds_toArray, List.set_cons_zero, List.set_cons_succ])
          refine takeL (i := 10) (v := undef) rfl (by kernel_rfl) (by kernel_rfl) (by kernel_rfl) (fun _ _ _ h => h) (Or.inr ⟨by rfl, rfl⟩) hHeld ?_
          (try simp only [Act.put, List.setIfInBounds_toArray, List.set_cons_zero, List.set_cons_succ])
          refine takeL (i := 11) (v := undef) rfl (by kernel_rfl) (by kernel_rfl) (by kernel_rfl) (fun _ _ _ h => h) (Or.inr ⟨by rfl, rfl⟩) hHeld ?_
          (try simp only [Act.put, List.setIfInBounds_toArray, List.set_cons_zero, List.set_cons_succ])
          refine takeL (i := 12) (v := undef) rfl (by kernel_rfl) (by kernel_rfl) (by kernel_rfl) (fun _ _ _ h => h) (Or.inr ⟨by rfl, rfl⟩) hHeld ?_
          (try simp only [Act.put, List.setIfInBounds_toArray, List.set_cons_zero, List.set_cons_succ])
          refine takeL (i := 13) (v := undef) rfl (by kernel_rfl) (by kernel_rfl) (by kernel_rfl) (fun _ _ _ h => h) (Or.inr ⟨by rfl, rfl⟩) hHeld ?_
          (try simp only [Act.put, List.setIfInBounds_toArray, List.set_cons_zero, List.set_cons_succ])
          refine takeL (i := 14) (v := undef) rfl (by kernel_rfl) (by kernel_rfl) (by kernel_rfl) (fun _ _ _ h => h) (Or.inr ⟨by rfl, rfl⟩) hHeld ?_
          (try simp only [Act.put, List.setIfInBounds_toArray, List.set_cons_zero, List.set_cons_succ])
          refine takeL (i := 15) (v := undef) rfl (by kernel_rfl) (by kernel_rfl) (by kernel_rfl) (fun _ _ _ h => h) (Or.inr ⟨by rfl, rfl⟩) hHeld ?_
          (try simp only [Act.put, List.setIfInBounds_toArray, List.set_cons_zero, List.set_cons_succ])
          refine takeL (i := 16) (v := undef) rfl (by kernel_rfl) (by kernel_rfl) (by kernel_rfl) (fun _ _ _ h => h) (Or.inr ⟨by rfl, rfl⟩) hHeld ?_
          (try simp only [Act.put, List.setIfInBounds_toArray, List.set_cons_zero, List.set_cons_succ])
          refine takeL (i := 17) (v := undef) rfl (by kernel_rfl) (by kernel_rfl) (by kernel_rfl) (fun _ _ _ h => h) (Or.inr ⟨by rfl, rfl⟩) hHeld ?_
          (try simp only [Act.put, List.setIfInBounds_toArray, List.set_cons_zero, List.set_cons_succ])
          refine takeL (i := 18) (v := undef) rfl (by kernel_rfl) (by kernel_rfl) (by kernel_rfl) (fun _ _ _ h => h) (Or.inr ⟨by rfl, rfl⟩) hHeld ?_
          (try simp only [Act.put, List.setIfInBounds_toArray, List.set_cons_zero, List.set_cons_succ])
          refine takeL (i := 19) (v := ?_) rfl (by kernel_rfl) (by kernel_rfl) (by kernel_rfl) (fun _ _ _ h => h) (Or.inl ⟨by rfl, ?_⟩) hHeld ?_
          rotate_left
          · intro w hSw; (try dsimp only at hSw); go_simp; (try with_reducible rfl)
          (try simp only [Act.put, List.setIfInBounds_toArray, List.set_cons_zero, List.set_cons_succ])
          refine wpAnyH_done (by kernel_rfl) ?_ _
          go_wp2
          go_ret
          exact ⟨ret_bool HR.out.symm, HW.out.trans (hHeld.1.out.mono (by omega))⟩
        | true =>
          have CMP := fun (v u : C3) (W : World) => compare_any v u W
          by_cases hkz : k = 0
          · have HOK2 := Lib.hid (HOK.out ht (fun q e => by omega))
            clear HOK HBAD HLT HX
            generalize t.2.2[k] = u at x0 x1 x2 ht
            subst hkz
            simp only [Nat.zero_mul, Nat.add_zero] at x0 x1 x2
            have hm0 : (0 : Int) < (m : Int) := by omega
            clear hk hk0 hk1 hlt hka
            have HIO : Hid (∀ W, Calls Try.prog 92 #[.agg #[.int .i64 u.1, .int .i64 u.2.1, .int .i64 u.2.2], .int .i64 t.1] W fun e w' => e = .returned (.bool true) ∧ Below W.heap.size W w') := fun W => by have := isOf_any u t.1 W (by omega); rw [ht] at this; exact this
            clear ht
            go_wp2_with fail
            refine wp_region_held_drew (S := (fun w' => Hid (Below W1.heap.size W1 w') ∧ w'.cell? ⟨w.heap.size, 0, none⟩ = some (.int .i64 t.1) ∧ w'.cell? ⟨wr.heap.size, 0, none⟩ = some (.int .i64 u.1) ∧ w'.cell? ⟨wr.heap.size, 1, none⟩ = some (.int .i64 u.2.1) ∧ w'.cell? ⟨wr.heap.size, 2, none⟩ = some (.int .i64 u.2.2))) (by kernel_rfl) ?_ (fun hHeld => ?_)
            · (try dsimp only); exact ⟨(by repeat (first | exact HBEL.out | refine Below.drew ?_ | refine Below.alloc ?_ (by first | omega | (simp; done) | (simp; omega)) _ | refine Below.setCell ?_ (by first | omega | (simp; done) | (simp; omega)) _)), by simp [go_sem, hzb, p0], by simp [go_sem], by simp [go_sem], by simp [go_sem]⟩
            refine takeL (i := 0) (v := ?_) rfl (by kernel_rfl) (by kernel_rfl) (by kernel_rfl) (fun _ _ _ h => h) (Or.inl ⟨by rfl, ?_⟩) hHeld ?_
            rotate_left
            · intro w hSw; (try dsimp only at hSw); go_simp; (try with_reducible rfl)
            (try simp only [Act.put, List.setIfInBounds_toArray, List.set_cons_zero, List.set_cons_succ])
            refine takeL (i := 1) (v := ?_) rfl (by kernel_rfl) (by kernel_rfl) (by kernel_rfl) (fun _ _ _ h => h) (Or.inl ⟨by rfl, ?_⟩) hHeld ?_
            rotate_left
            · intro w hSw; (try dsimp only at hSw); go_simp; (try with_reducible rfl)
            (try simp only [Act.put, List.setIfInBounds_toArray, List.set_cons_zero, List.set_cons_succ])
            refine takeL (i := 2) (v := ?_) rfl (by kernel_rfl) (by kernel_rfl) (by kernel_rfl) (fun _ _ _ h => h) (Or.inl ⟨by rfl, ?_⟩) hHeld ?_
            rotate_left
            · intro w hSw; (try dsimp only at hSw); go_simp; (try with_reducible rfl)
            (try simp only [Act.put, List.setIfInBounds_toArray, List.set_cons_zero, List.set_cons_succ])
            refine wpAnyH_ready (rs := [3]) (by kernel_rfl) (by simp) ?_
            refine readyL rfl (fun K hK => ?_) AllReadyH.nil
            go_simp
            go_at_call 92; refine (HIO.out _).mono ?_; rintro e w2 ⟨rfl, hb2⟩
            refine hK.out _ _ ?_ (fun hHeld => ?_)
            · (try dsimp only); exact ⟨two_worlds hHeld.1.out hb2, keepS hb2 hHeld.2.1, keepS hb2 hHeld.2.2.1, keepS hb2 hHeld.2.2.2.1, keepS hb2 hHeld.2.2.2.2⟩
            clear hK K
            (try simp only [Act.put, List.setIfInBounds_toArray, List.set_cons_zero, List.set_cons_succ])
            refine takeL (i := 4) (v := ?_) rfl (by kernel_rfl) (by kernel_rfl) (by kernel_rfl) (fun _ _ _ h => h) (Or.inl ⟨by rfl, ?_⟩) hHeld ?_
            rotate_left
            · intro w hSw; (try dsimp only at hSw); go_simp; (try with_reducible rfl)
            (try simp only [Act.put, List.setIfInBounds_toArray, List.set_cons_zero, List.set_cons_succ])
            refine takeL (i := 5) (v := ?_) rfl (by kernel_rfl) (by kernel_rfl) (by kernel_rfl) (fun _ _ _ h => h) (Or.inl ⟨by rfl, ?_⟩) hHeld ?_
            rotate_left
            · intro w hSw; (try dsimp only at hSw); go_simp; (try with_reducible rfl)
            (try simp only [Act.put, List.setIfInBounds_toArray, List.set_cons_zero, List.set_cons_succ])
            refine takeL (i := 6) (v := ?_) rfl (by kernel_rfl) (by kernel_rfl) (by kernel_rfl) (fun _ _ _ h => h) (Or.inl ⟨by rfl, ?_⟩) hHeld ?_
            rotate_left
            · intro w hSw; (try dsimp only at hSw); go_simp; (try with_reducible rfl)
            (try simp only [Act.put, List.setIfInBounds_toArray, List.set_cons_zero, List.set_cons_succ])
            refine takeL (i := 7) (v := ?_) rfl (by kernel_rfl) (by kernel_rfl) (by kernel_rfl) (fun _ _ _ h => h) (Or.inl ⟨by rfl, ?_⟩) hHeld ?_
            rotate_left
            · intro w hSw; (try dsimp only at hSw); go_simp; (try with_reducible rfl)
            (try simp only [Act.put, List.setIfInBounds_toArray, List.set_cons_zero, List.set_cons_succ])
            refine takeL (i := 8) (v := ?_) rfl (by kernel_rfl) (by kernel_rfl) (by kernel_rfl) (fun _ _ _ h => h) (Or.inl ⟨by rfl, ?_⟩) hHeld ?_
            rotate_left
            · intro w hSw; (try dsimp only at hSw); go_simp; (try with_reducible rfl)
            (try simp only [Act.put, List.setIfInBounds_toArray, List.set_cons_zero, List.set_cons_succ])
            refine takeL (i := 9) (v := undef) rfl (by kernel_rfl) (by kernel_rfl) (by kernel_rfl) (fun _ _ _ h => h) (Or.inr ⟨by rfl, rfl⟩) hHeld ?_
            (try simp only [Act.put, List.setIfInBounds_toArray, List.set_cons_zero, List.set_cons_succ])
            refine takeL (i := 10) (v := undef) rfl (by kernel_rfl) (by kernel_rfl) (by kernel_rfl) (fun _ _ _ h => h) (Or.inr ⟨by rfl, rfl⟩) hHeld ?_
            (try simp only [Act.put, List.setIfInBounds_toArray, List.set_cons_zero, List.set_cons_succ])
            refine takeL (i := 11) (v := undef) rfl (by kernel_rfl) (by kernel_rfl) (by kernel_rfl) (fun _ _ _ h => h) (Or.inr ⟨by rfl, rfl⟩) hHeld ?_
            (try simp only [Act.put, List.setIfInBounds_toArray, List.set_cons_zero, List.set_cons_succ])
            refine takeL (i := 12) (v := undef) rfl (by kernel_rfl) (by kernel_rfl) (by kernel_rfl) (fun _ _ _ h => h) (Or.inr ⟨by rfl, rfl⟩) hHeld ?_
            (try simp only [Act.put, List.setIfInBounds_toArray, List.set_cons_zero, List.set_cons_succ])
            refine takeL (i := 13) (v := undef) rfl (by kernel_rfl) (by kernel_rfl) (by kernel_rfl) (fun _ _ _ h => h) (Or.inr ⟨by rfl, rfl⟩) hHeld ?_
            (try simp only [Act.put, List.setIfInBounds_toArray, List.set_cons_zero, List.set_cons_succ])
            refine takeL (i := 14) (v := undef) rfl (by kernel_rfl) (by kernel_rfl) (by kernel_rfl) (fun _ _ _ h => h) (Or.inr ⟨by rfl, rfl⟩) hHeld ?_
            (try simp only [Act.put, List.setIfInBounds_toArray, List.set_cons_zero, List.set_cons_succ])
            refine takeL (i := 15) (v := undef) rfl (by kernel_rfl) (by kernel_rfl) (by kernel_rfl) (fun _ _ _ h => h) (Or.inr ⟨by rfl, rfl⟩) hHeld ?_
            (try simp only [Act.put, List.setIfInBounds_toArray, List.set_cons_zero, List.set_cons_succ])
            refine takeL (i := 16) (v := undef) rfl (by kernel_rfl) (by kernel_rfl) (by kernel_rfl) (fun _ _ _ h => h) (Or.inr ⟨by rfl, rfl⟩) hHeld ?_
            (try simp only [Act.put, List.setIfInBounds_toArray, List.set_cons_zero, List.set_cons_succ])
            refine takeL (i := 17) (v := undef) rfl (by kernel_rfl) (by kernel_rfl) (by kernel_rfl) (fun _ _ _ h => h) (Or.inr ⟨by rfl, rfl⟩) hHeld ?_
            (try simp only [Act.put, List.setIfInBounds_toArray, List.set_cons_zero, List.set_cons_succ])
            refine takeL (i := 18) (v := ?_) rfl (by kernel_rfl) (by kernel_rfl) (by kernel_rfl) (fun _ _ _ h => h) (Or.inl ⟨by rfl, ?_⟩) hHeld ?_
            rotate_left
            · intro w hSw; (try dsimp only at hSw); go_simp; (try with_reducible rfl)
            (try simp only [Act.put, List.setIfInBounds_toArray, List.set_cons_zero, List.set_cons_succ])
            refine takeL (i := 19) (v := ?_) rfl (by kernel_rfl) (by kernel_rfl) (by kernel_rfl) (fun _ _ _ h => h) (Or.inl ⟨by rfl, ?_⟩) hHeld ?_
            rotate_left
            · intro w hSw; (try dsimp only at hSw); go_simp; (try with_reducible rfl)
            (try simp only [Act.put, List.setIfInBounds_toArray, List.set_cons_zero, List.set_cons_succ])
            refine wpAnyH_done (by kernel_rfl) ?_ _
            go_wp2
            go_roundw
            case rel => exact ⟨1, by omega, by go_num, hHeld.1, HOK2⟩
            case measure => simp [intOf]; omega
          · have hqa : k - 1 < t.2.2.length := by omega
            have HLT2 := Lib.hid (HLT.out (k - 1) (by omega))
            have HOK2 : Hid (ltC (t.2.2[k - 1]'hqa) t.2.2[k] → OkTo t (k + 1)) := fun h => HOK.out ht (fun q' e => by
              have : q' = k - 1 := by omega
              subst this
              exact h)
            obtain ⟨b2, o2, hab, hbl2, hy⟩ := HX.out.at_ (k - 1) hqa
            injection hab with hab
            injection hab with e1 e2
            subst e1 e2
            have y0 := hy 0 _ rfl
            have y1 := hy 1 _ rfl
            have y2 := hy 2 _ rfl
            simp only [Nat.add_zero] at y0
            clear hy HOK HBAD HLT HX
            generalize t.2.2[k] = u at x0 x1 x2 ht HLT2 HOK2
            generalize t.2.2[k - 1] = v at y0 y1 y2 HLT2 HOK2
            have hkpos : decide ((0 : Int) < (k : Int)) = true := by simp; omega
            have hkpos2 : decide (0 < k) = true := by simp; omega
            have hq0 : (0 : Int) ≤ (k : Int) - 1 := by omega
            have hq1 : (k : Int) - 1 < (m : Int) := by omega
            have hw1 : IntKind.i64.wrap ((k : Int) - 1) = (k : Int) - 1 := IntWalk.i64_in _ (by omega)
            have hk1k : (1 : Int) ≤ (k : Int) := by omega
            have hk1n : 1 ≤ k := by omega
            have hkm1 : (k : Int) - 1 < (m : Int) := by omega
            have hkm2 : k - 1 < m := by omega
            have HIO : Hid (∀ W, Calls Try.prog 92 #[.agg #[.int .i64 u.1, .int .i64 u.2.1, .int .i64 u.2.2], .int .i64 t.1] W fun e w' => e = .returned (.bool true) ∧ Below W.heap.size W w') := fun W => by have := isOf_any u t.1 W (by omega); rw [ht] at this; exact this
            have CO := Lib.hid (CMP v u)
            have hcb := cmpC_bd v u
            have hcn := cmpC_neg v u
            generalize cmpC v u = cv at CO hcb hcn
            clear CMP ht hkz
            have h2w : (¬ cv ≥ 0 ∧ ltC v u) ∨ (cv ≥ 0 ∧ ¬ ltC v u) := by
              by_cases h : cv < 0
              · exact .inl ⟨by omega, hcn.1 h⟩
              · exact .inr ⟨by omega, fun g => h (hcn.2 g)⟩
            clear hcn
            rcases h2w with ⟨hc, hl⟩ | ⟨hc, hl⟩
            · have HN := Lib.hid (HOK2.out hl)
              have hcd : decide (cv ≥ 0) = false := decide_eq_false hc
              clear HLT2 HOK2 hl hc
              go_wp2_with fail
              refine wp_region_held_drew (S := (fun w' => Hid (Below W1.heap.size W1 w') ∧ w'.cell? ⟨w.heap.size, 0, none⟩ = some (.int .i64 t.1) ∧ w'.cell? ⟨wr.heap.size, 0, none⟩ = some (.int .i64 u.1) ∧ w'.cell? ⟨wr.heap.size, 1, none⟩ = some (.int .i64 u.2.1) ∧ w'.cell? ⟨wr.heap.size, 2, none⟩ = some (.int .i64 u.2.2) ∧ w'.cell? ⟨w.heap.size, 2, none⟩ = some (.slice (some ⟨bb, ob, none⟩) m d) ∧ w'.cell? ⟨bb, ob + (k - 1) * 3, none⟩ = some (.int .i64 v.1) ∧ w'.cell? ⟨bb, ob + (k - 1) * 3 + 1, none⟩ = some (.int .i64 v.2.1) ∧ w'.cell? ⟨bb, ob + (k - 1) * 3 + 2, none⟩ = some (.int .i64 v.2.2))) (by kernel_rfl) ?_ (fun hHeld => ?_)
              · (try dsimp only); exact ⟨(by repeat (first | exact HBEL.out | refine Below.drew ?_ | refine Below.alloc ?_ (by first | omega | (simp; done) | (simp; omega)) _ | refine Below.setCell ?_ (by first | omega | (simp; done) | (simp; omega)) _)), by simp [go_sem, hzb, p0], by simp [go_sem], by simp [go_sem], by simp [go_sem], by simp [go_sem, hzb, p2], by simp [go_sem, hbl, y0], by simp [go_sem, hbl, y1], by simp [go_sem, hbl, y2]⟩
              refine takeL (i := 0) (v := ?_) rfl (by kernel_rfl) (by kernel_rfl) (by kernel_rfl) (fun _ _ _ h => h) (Or.inl ⟨by rfl, ?_⟩) hHeld ?_
              rotate_left
              · intro w hSw; (try dsimp only at hSw); go_simp; (try with_reducible rfl)
              (try simp only [Act.put, List.setIfInBounds_toArray, List.set_cons_zero, List.set_cons_succ])
              refine takeL (i := 1) (v := ?_) rfl (by kernel_rfl) (by kernel_rfl) (by kernel_rfl) (fun _ _ _ h => h) (Or.inl ⟨by rfl, ?_⟩) hHeld ?_
              rotate_left
              · intro w hSw; (try dsimp only at hSw); go_simp; (try with_reducible rfl)
              (try simp only [Act.put, List.setIfInBounds_toArray, List.set_cons_zero, List.set_cons_succ])
              refine takeL (i := 2) (v := ?_) rfl (by kernel_rfl) (by kernel_rfl) (by kernel_rfl) (fun _ _ _ h => h) (Or.inl ⟨by rfl, ?_⟩) hHeld ?_
              rotate_left
              · intro w hSw; (try dsimp only at hSw); go_simp; (try with_reducible rfl)
              (try simp only [Act.put, List.setIfInBounds_toArray, List.set_cons_zero, List.set_cons_succ])
              refine wpAnyH_ready (rs := [3]) (by kernel_rfl) (by simp) ?_
              refine readyL rfl (fun K hK => ?_) AllReadyH.nil
              go_simp
              go_at_call 92; refine (HIO.out _).mono ?_; rintro e w2 ⟨rfl, hb2⟩
              refine hK.out _ _ ?_ (fun hHeld => ?_)
              · (try dsimp only); exact ⟨two_worlds hHeld.1.out hb2, keepS hb2 hHeld.2.1, keepS hb2 hHeld.2.2.1, keepS hb2 hHeld.2.2.2.1, keepS hb2 hHeld.2.2.2.2.1, keepS hb2 hHeld.2.2.2.2.2.1, keepS hb2 hHeld.2.2.2.2.2.2.1, keepS hb2 hHeld.2.2.2.2.2.2.2.1, keepS hb2 hHeld.2.2.2.2.2.2.2.2⟩
              clear hK K
              (try simp only [Act.put, List.setIfInBounds_toArray, List.set_cons_zero, List.set_cons_succ])
              refine takeL (i := 4) (v := ?_) rfl (by kernel_rfl) (by kernel_rfl) (by kernel_rfl) (fun _ _ _ h => h) (Or.inl ⟨by rfl, ?_⟩) hHeld ?_
              rotate_left
              · intro w hSw; (try dsimp only at hSw); go_simp; (try with_reducible rfl)
              (try simp only [Act.put, List.setIfInBounds_toArray, List.set_cons_zero, List.set_cons_succ])
              refine takeL (i := 5) (v := ?_) rfl (by kernel_rfl) (by kernel_rfl) (by kernel_rfl) (fun _ _ _ h => h) (Or.inl ⟨by rfl, ?_⟩) hHeld ?_
              rotate_left
              · intro w hSw; (try dsimp only at hSw); go_simp; (try with_reducible rfl)
              (try simp only [Act.put, List.setIfInBounds_toArray, List.set_cons_zero, List.set_cons_succ])
              refine takeL (i := 6) (v := ?_) rfl (by kernel_rfl) (by kernel_rfl) (by kernel_rfl) (fun _ _ _ h => h) (Or.inl ⟨by rfl, ?_⟩) hHeld ?_
              rotate_left
              · intro w hSw; (try dsimp only at hSw); go_simp; (try with_reducible rfl)
              (try simp only [Act.put, List.setIfInBounds_toArray, List.set_cons_zero, List.set_cons_succ])
              refine takeL (i := 7) (v := ?_) rfl (by kernel_rfl) (by kernel_rfl) (by kernel_rfl) (fun _ _ _ h => h) (Or.inl ⟨by rfl, ?_⟩) hHeld ?_
              rotate_left
              · intro w hSw; (try dsimp only at hSw); go_simp; (try with_reducible rfl)
              (try simp only [Act.put, List.setIfInBounds_toArray, List.set_cons_zero, List.set_cons_succ])
              refine takeL (i := 8) (v := ?_) rfl (by kernel_rfl) (by kernel_rfl) (by kernel_rfl) (fun _ _ _ h => h) (Or.inl ⟨by rfl, ?_⟩) hHeld ?_
              rotate_left
              · intro w hSw; (try dsimp only at hSw); go_simp; (try with_reducible rfl)
              (try simp only [Act.put, List.setIfInBounds_toArray, List.set_cons_zero, List.set_cons_succ])
              refine takeL (i := 9) (v := ?_) rfl (by kernel_rfl) (by kernel_rfl) (by kernel_rfl) (fun _ _ _ h => h) (Or.inl ⟨by rfl, ?_⟩) hHeld ?_
              rotate_left
              · intro w hSw; (try dsimp only at hSw); go_simp; (try with_reducible rfl)
              (try simp only [Act.put, List.setIfInBounds_toArray, List.set_cons_zero, List.set_cons_succ])
              refine takeL (i := 10) (v := ?_) rfl (by kernel_rfl) (by kernel_rfl) (by kernel_rfl) (fun _ _ _ h => h) (Or.inl ⟨by rfl, ?_⟩) hHeld ?_
              rotate_left
              · intro w hSw; (try dsimp only at hSw); go_simp; (try with_reducible rfl)
              (try simp only [Act.put, List.setIfInBounds_toArray, List.set_cons_zero, List.set_cons_succ])
              refine takeL (i := 11) (v := ?_) rfl (by kernel_rfl) (by kernel_rfl) (by kernel_rfl) (fun _ _ _ h => h) (Or.inl ⟨by rfl, ?_⟩) hHeld ?_
              rotate_left
              · intro w hSw; (try dsimp only at hSw); go_simp; (try with_reducible rfl)
              (try simp only [Act.put, List.setIfInBounds_toArray, List.set_cons_zero, List.set_cons_succ])
              refine takeL (i := 12) (v := ?_) rfl (by kernel_rfl) (by kernel_rfl) (by kernel_rfl) (fun _ _ _ h => h) (Or.inl ⟨by rfl, ?_⟩) hHeld ?_
              rotate_left
              · intro w hSw; (try dsimp only at hSw); go_simp; (try with_reducible rfl)
              (try simp only [Act.put, List.setIfInBounds_toArray, List.set_cons_zero, List.set_cons_succ])
              refine takeL (i := 13) (v := ?_) rfl (by kernel_rfl) (by kernel_rfl) (by kernel_rfl) (fun _ _ _ h => h) (Or.inl ⟨by rfl, ?_⟩) hHeld ?_
              rotate_left
              · intro w hSw; (try dsimp only at hSw); go_simp; (try with_reducible rfl)
              (try simp only [Act.put, List.setIfInBounds_toArray, List.set_cons_zero, List.set_cons_succ])
              refine takeL (i := 14) (v := ?_) rfl (by kernel_rfl) (by kernel_rfl) (by kernel_rfl) (fun _ _ _ h => h) (Or.inl ⟨by rfl, ?_⟩) hHeld ?_
              rotate_left
              · intro w hSw; (try dsimp only at hSw); go_simp; (try with_reducible rfl)
              (try simp only [Act.put, List.setIfInBounds_toArray, List.set_cons_zero, List.set_cons_succ])
              refine takeL (i := 15) (v := ?_) rfl (by kernel_rfl) (by kernel_rfl) (by kernel_rfl) (fun _ _ _ h => h) (Or.inl ⟨by rfl, ?_⟩) hHeld ?_
              rotate_left
              · intro w hSw; (try dsimp only at hSw); go_simp; (try with_reducible rfl)
              (try simp only [Act.put, List.setIfInBounds_toArray, List.set_cons_zero, List.set_cons_succ])
              refine wpAnyH_ready (rs := [16]) (by kernel_rfl) (by simp) ?_
              refine readyL rfl (fun K hK => ?_) AllReadyH.nil
              go_simp
              go_at_call 93; refine (CO.out _).mono ?_; rintro e w2 ⟨rfl, hb2⟩
              refine hK.out _ _ ?_ (fun hHeld => ?_)
              · (try dsimp only); exact ⟨two_worlds hHeld.1.out hb2, keepS hb2 hHeld.2.1, keepS hb2 hHeld.2.2.1, keepS hb2 hHeld.2.2.2.1, keepS hb2 hHeld.2.2.2.2.1, keepS hb2 hHeld.2.2.2.2.2.1, keepS hb2 hHeld.2.2.2.2.2.2.1, keepS hb2 hHeld.2.2.2.2.2.2.2.1, keepS hb2 hHeld.2.2.2.2.2.2.2.2⟩
              clear hK K
              (try simp only [Act.put, List.setIfInBounds_toArray, List.set_cons_zero, List.set_cons_succ])
              refine takeL (i := 17) (v := ?_) rfl (by kernel_rfl) (by kernel_rfl) (by kernel_rfl) (fun _ _ _ h => h) (Or.inl ⟨by rfl, ?_⟩) hHeld ?_
              rotate_left
              · intro w hSw; (try dsimp only at hSw); go_simp; (try with_reducible rfl)
              (try simp only [Act.put, List.setIfInBounds_toArray, List.set_cons_zero, List.set_cons_succ])
              refine takeL (i := 18) (v := ?_) rfl (by kernel_rfl) (by kernel_rfl) (by kernel_rfl) (fun _ _ _ h => h) (Or.inl ⟨by rfl, ?_⟩) hHeld ?_
              rotate_left
              · intro w hSw; (try dsimp only at hSw); go_simp; (try with_reducible rfl)
              (try simp only [Act.put, List.setIfInBounds_toArray, List.set_cons_zero, List.set_cons_succ])
              refine takeL (i := 19) (v := ?_) rfl (by kernel_rfl) (by kernel_rfl) (by kernel_rfl) (fun _ _ _ h => h) (Or.inl ⟨by rfl, ?_⟩) hHeld ?_
              rotate_left
              · intro w hSw; (try dsimp only at hSw); go_simp; (try with_reducible rfl)
              (try simp only [Act.put, List.setIfInBounds_toArray, List.set_cons_zero, List.set_cons_succ])
              refine wpAnyH_done (by kernel_rfl) ?_ _
              go_wp2
              go_roundw
              case rel => exact ⟨k + 1, by omega, by go_num, hHeld.1, HN⟩
              case measure => simp [intOf]; omega
            · have HR := Lib.hid (HLT2.out hl)
              have hcd : decide (cv ≥ 0) = true := decide_eq_true hc
              clear HLT2 HOK2 hl hc
              go_wp2_with fail
              refine wp_region_held_drew (S := (fun w' => Hid (Below W1.heap.size W1 w') ∧ w'.cell? ⟨w.heap.size, 0, none⟩ = some (.int .i64 t.1) ∧ w'.cell? ⟨wr.heap.size, 0, none⟩ = some (.int .i64 u.1) ∧ w'.cell? ⟨wr.heap.size, 1, none⟩ = some (.int .i64 u.2.1) ∧ w'.cell? ⟨wr.heap.size, 2, none⟩ = some (.int .i64 u.2.2) ∧ w'.cell? ⟨w.heap.size, 2, none⟩ = some (.slice (some ⟨bb, ob, none⟩) m d) ∧ w'.cell? ⟨bb, ob + (k - 1) * 3, none⟩ = some (.int .i64 v.1) ∧ w'.cell? ⟨bb, ob + (k - 1) * 3 + 1, none⟩ = some (.int .i64 v.2.1) ∧ w'.cell? ⟨bb, ob + (k - 1) * 3 + 2, none⟩ = some (.int .i64 v.2.2))) (by kernel_rfl) ?_ (fun hHeld => ?_)
              · (try dsimp only); exact ⟨(by repeat (first | exact HBEL.out | refine Below.drew ?_ | refine Below.alloc ?_ (by first | omega | (simp; done) | (simp; omega)) _ | refine Below.setCell ?_ (by first | omega | (simp; done) | (simp; omega)) _)), by simp [go_sem, hzb, p0], by simp [go_sem], by simp [go_sem], by simp [go_sem], by simp [go_sem, hzb, p2], by simp [go_sem, hbl, y0], by simp [go_sem, hbl, y1], by simp [go_sem, hbl, y2]⟩
              refine takeL (i := 0) (v := ?_) rfl (by kernel_rfl) (by kernel_rfl) (by kernel_rfl) (fun _ _ _ h => h) (Or.inl ⟨by rfl, ?_⟩) hHeld ?_
              rotate_left
              · intro w hSw; (try dsimp only at hSw); go_simp; (try with_reducible rfl)
              (try simp only [Act.put, List.setIfInBounds_toArray, List.set_cons_zero, List.set_cons_succ])
              refine takeL (i := 1) (v := ?_) rfl (by kernel_rfl) (by kernel_rfl) (by kernel_rfl) (fun _ _ _ h => h) (Or.inl ⟨by rfl, ?_⟩) hHeld ?_
              rotate_left
              · intro w hSw; (try dsimp only at hSw); go_simp; (try with_reducible rfl)
              (try simp only [Act.put, List.setIfInBounds_toArray, List.set_cons_zero, List.set_cons_succ])
              refine takeL (i := 2) (v := ?_) rfl (by kernel_rfl) (by kernel_rfl) (by kernel_rfl) (fun _ _ _ h => h) (Or.inl ⟨by rfl, ?_⟩) hHeld ?_
              rotate_left
              · intro w hSw; (try dsimp only at hSw); go_simp; (try with_reducible rfl)
              (try simp only [Act.put, List.setIfInBounds_toArray, List.set_cons_zero, List.set_cons_succ])
              refine wpAnyH_ready (rs := [3]) (by kernel_rfl) (by simp) ?_
              refine readyL rfl (fun K hK => ?_) AllReadyH.nil
              go_simp
              go_at_call 92; refine (HIO.out _).mono ?_; rintro e w2 ⟨rfl, hb2⟩
              refine hK.out _ _ ?_ (fun hHeld => ?_)
              · (try dsimp only); exact ⟨two_worlds hHeld.1.out hb2, keepS hb2 hHeld.2.1, keepS hb2 hHeld.2.2.1, keepS hb2 hHeld.2.2.2.1, keepS hb2 hHeld.2.2.2.2.1, keepS hb2 hHeld.2.2.2.2.2.1, keepS hb2 hHeld.2.2.2.2.2.2.1, keepS hb2 hHeld.2.2.2.2.2.2.2.1, keepS hb2 hHeld.2.2.2.2.2.2.2.2⟩
              clear hK K
              (try simp only [Act.put, List.setIfInBounds_toArray, List.set_cons_zero, List.set_cons_succ])
              refine takeL (i := 4) (v := ?_) rfl (by kernel_rfl) (by kernel_rfl) (by kernel_rfl) (fun _ _ _ h => h) (Or.inl ⟨by rfl, ?_⟩) hHeld ?_
              rotate_left
              · intro w hSw; (try dsimp only at hSw); go_simp; (try with_reducible rfl)
              (try simp only [Act.put, List.setIfInBounds_toArray, List.set_cons_zero, List.set_cons_succ])
              refine takeL (i := 5) (v := ?_) rfl (by kernel_rfl) (by kernel_rfl) (by kernel_rfl) (fun _ _ _ h => h) (Or.inl ⟨by rfl, ?_⟩) hHeld ?_
              rotate_left
              · intro w hSw; (try dsimp only at hSw); go_simp; (try with_reducible rfl)
              (try simp only [Act.put, List.setIfInBounds_toArray, List.set_cons_zero, List.set_cons_succ])
              refine takeL (i := 6) (v := ?_) rfl (by kernel_rfl) (by kernel_rfl) (by kernel_rfl) (fun _ _ _ h => h) (Or.inl ⟨by rfl, ?_⟩) hHeld ?_
              rotate_left
              · intro w hSw; (try dsimp only at hSw); go_simp; (try with_reducible rfl)
              (try simp only [Act.put, List.setIfInBounds_toArray, List.set_cons_zero, List.set_cons_succ])
              refine takeL (i := 7) (v := ?_) rfl (by kernel_rfl) (by kernel_rfl) (by kernel_rfl) (fun _ _ _ h => h) (Or.inl ⟨by rfl, ?_⟩) hHeld ?_
              rotate_left
              · intro w hSw; (try dsimp only at hSw); go_simp; (try with_reducible rfl)
              (try simp only [Act.put, List.setIfInBounds_toArray, List.set_cons_zero, List.set_cons_succ])
              refine takeL (i := 8) (v := ?_) rfl (by kernel_rfl) (by kernel_rfl) (by kernel_rfl) (fun _ _ _ h => h) (Or.inl ⟨by rfl, ?_⟩) hHeld ?_
              rotate_left
              · intro w hSw; (try dsimp only at hSw); go_simp; (try with_reducible rfl)
              (try simp only [Act.put, List.setIfInBounds_toArray, List.set_cons_zero, List.set_cons_succ])
              refine takeL (i := 9) (v := ?_) rfl (by kernel_rfl) (by kernel_rfl) (by kernel_rfl) (fun _ _ _ h => h) (Or.inl ⟨by rfl, ?_⟩) hHeld ?_
              rotate_left
              · intro w hSw; (try dsimp only at hSw); go_simp; (try with_reducible rfl)
              (try simp only [Act.put, List.setIfInBounds_toArray, List.set_cons_zero, List.set_cons_succ])
              refine takeL (i := 10) (v := ?_) rfl (by kernel_rfl) (by kernel_rfl) (by kernel_rfl) (fun _ _ _ h => h) (Or.inl ⟨by rfl, ?_⟩) hHeld ?_
              rotate_left
              · intro w hSw; (try dsimp only at hSw); go_simp; (try with_reducible rfl)
              (try simp only [Act.put, List.setIfInBounds_toArray, List.set_cons_zero, List.set_cons_succ])
              refine takeL (i := 11) (v := ?_) rfl (by kernel_rfl) (by kernel_rfl) (by kernel_rfl) (fun _ _ _ h => h) (Or.inl ⟨by rfl, ?_⟩) hHeld ?_
              rotate_left
              · intro w hSw; (try dsimp only at hSw); go_simp; (try with_reducible rfl)
              (try simp only [Act.put, List.setIfInBounds_toArray, List.set_cons_zero, List.set_cons_succ])
              refine takeL (i := 12) (v := ?_) rfl (by kernel_rfl) (by kernel_rfl) (by kernel_rfl) (fun _ _ _ h => h) (Or.inl ⟨by rfl, ?_⟩) hHeld ?_
              rotate_left
              · intro w hSw; (try dsimp only at hSw); go_simp; (try with_reducible rfl)
              (try simp only [Act.put, List.setIfInBounds_toArray, List.set_cons_zero, List.set_cons_succ])
              refine takeL (i := 13) (v := ?_) rfl (by kernel_rfl) (by kernel_rfl) (by kernel_rfl) (fun _ _ _ h => h) (Or.inl ⟨by rfl, ?_⟩) hHeld ?_
              rotate_left
              · intro w hSw; (try dsimp only at hSw); go_simp; (try with_reducible rfl)
              (try simp only [Act.put, List.setIfInBounds_toArray, List.set_cons_zero, List.set_cons_succ])
              refine takeL (i := 14) (v := ?_) rfl (by kernel_rfl) (by kernel_rfl) (by kernel_rfl) (fun _ _ _ h => h) (Or.inl ⟨by rfl, ?_⟩) hHeld ?_
              rotate_left
              · intro w hSw; (try dsimp only at hSw); go_simp; (try with_reducible rfl)
              (try simp only [Act.put, List.setIfInBounds_toArray, List.set_cons_zero, List.set_cons_succ])
              refine takeL (i := 15) (v := ?_) rfl (by kernel_rfl) (by kernel_rfl) (by kernel_rfl) (fun _ _ _ h => h) (Or.inl ⟨by rfl, ?_⟩) hHeld ?_
              rotate_left
              · intro w hSw; (try dsimp only at hSw); go_simp; (try with_reducible rfl)
              (try simp only [Act.put, List.setIfInBounds_toArray, List.set_cons_zero, List.set_cons_succ])
              refine wpAnyH_ready (rs := [16]) (by kernel_rfl) (by simp) ?_
              refine readyL rfl (fun K hK => ?_) AllReadyH.nil
              go_simp
              go_at_call 93; refine (CO.out _).mono ?_; rintro e w2 ⟨rfl, hb2⟩
              refine hK.out _ _ ?_ (fun hHeld => ?_)
              · (try dsimp only); exact ⟨two_worlds hHeld.1.out hb2, keepS hb2 hHeld.2.1, keepS hb2 hHeld.2.2.1, keepS hb2 hHeld.2.2.2.1, keepS hb2 hHeld.2.2.2.2.1, keepS hb2 hHeld.2.2.2.2.2.1, keepS hb2 hHeld.2.2.2.2.2.2.1, keepS hb2 hHeld.2.2.2.2.2.2.2.1, keepS hb2 hHeld.2.2.2.2.2.2.2.2⟩
              clear hK K
              (try simp only [Act.put, List.setIfInBounds_toArray, List.set_cons_zero, List.set_cons_succ])
              refine takeL (i := 17) (v := ?_) rfl (by kernel_rfl) (by kernel_rfl) (by kernel_rfl) (fun _ _ _ h => h) (Or.inl ⟨by rfl, ?_⟩) hHeld ?_
              rotate_left
              · intro w hSw; (try dsimp only at hSw); go_simp; (try with_reducible rfl)
              (try simp only [Act.put, List.setIfInBounds_toArray, List.set_cons_zero, List.set_cons_succ])
              refine takeL (i := 18) (v := ?_) rfl (by kernel_rfl) (by kernel_rfl) (by kernel_rfl) (fun _ _ _ h => h) (Or.inl ⟨by rfl, ?_⟩) hHeld ?_
              rotate_left
              · intro w hSw; (try dsimp only at hSw); go_simp; (try with_reducible rfl)
              (try simp only [Act.put, List.setIfInBounds_toArray, List.set_cons_zero, List.set_cons_succ])
              refine takeL (i := 19) (v := ?_) rfl (by kernel_rfl) (by kernel_rfl) (by kernel_rfl) (fun _ _ _ h => h) (Or.inl ⟨by rfl, ?_⟩) hHeld ?_
              rotate_left
              · intro w hSw; (try dsimp only at hSw); go_simp; (try with_reducible rfl)
              (try simp only [Act.put, List.setIfInBounds_toArray, List.set_cons_zero, List.set_cons_succ])
              refine wpAnyH_done (by kernel_rfl) ?_ _
              go_wp2
              go_ret
              exact ⟨ret_bool HR.out.symm, HW.out.trans (hHeld.1.out.mono (by omega))⟩
      · have hkm : k = m := by omega
        subst hkm
        have HR := Lib.hid (HALLC.out (by rw [hm.out]; exact HALL.out))
        have AW : Hid (Calls Try.prog 94 #[.slice a n c, .int .i64 (t.1 - 1)] wr fun e w' => e = .returned (.bool (zonB t)) ∧ wr = w') := by
          rw [HR.out]
          exact areWithin_any a t.2.1 n c (t.1 - 1) wr hn (HA.out _ HWR.out) (by omega)
        go_wp2_with fail
        refine AW.out.mono ?_
        rintro e w' ⟨rfl, rfl⟩
        go_wp2
        go_ret
        exact ⟨rfl, HWR.out⟩
end Go.Proofs.Ytfejgckimlgopaa
