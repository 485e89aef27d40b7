/-
  SendAll: the model's walk and the program's.
-/
import Derived.Test.YtoecbbkaokgjeaaSendC
namespace Go.Proofs.Ytoecbbkaokgjeaa
open Go.RowKit

def goS : List Int → List TMove → Nat → List Int × Int
  | l, [], _ => (l, -1)
  | l, t :: ts, i => if t.2.2 ≤ l.getD t.1.toNat 0 then goS (movL l t.1.toNat t.2.1.toNat t.2.2) ts (i + 1) else (l, (i : Int))
theorem goS_len (l : List Int) (ts : List TMove) (i : Nat) : (goS l ts i).1.length = l.length := by
  induction ts generalizing l i with
  | nil => rfl
  | cons t ts ih =>
    rw [goS]
    split
    · rw [ih, movL_len]
    · rfl
theorem goS_end {m : List Int} {ts : List TMove} {k n : Nat} (hn : ts.length = n) (hk : k = n) : goS m (ts.drop k) k = (m, -1) := by
  rw [List.drop_eq_nil_of_le (by omega)]; rfl
theorem goS_hit {m : List Int} {ts : List TMove} {k f t : Nat} {x : Int} (hk : k < ts.length) (e : ts[k] = ((f : Int), (t : Int), x)) (h : x ≤ m.getD f 0) : goS m (ts.drop k) k = goS (movL m f t x) (ts.drop (k + 1)) (k + 1) := by
  rw [List.drop_eq_getElem_cons hk, goS, e]
  dsimp only
  rw [Int.toNat_natCast, Int.toNat_natCast, if_pos h]
theorem goS_miss {m : List Int} {ts : List TMove} {k f t : Nat} {x : Int} (hk : k < ts.length) (e : ts[k] = ((f : Int), (t : Int), x)) (h : ¬ x ≤ m.getD f 0) : goS m (ts.drop k) k = (m, (k : Int)) := by
  rw [List.drop_eq_getElem_cons hk, goS, e]
  dsimp only
  rw [Int.toNat_natCast, if_neg h]
def sendAllOf (l : List Int) (ts : List TMove) : List Int × Int × Int :=
  if stB l = true then if msB (l.length : Int) ts = true then ((goS l ts 0).1, (goS l ts 0).2, 0) else ([], 0, 2) else ([], 0, 1)
theorem sendAllOf_bad {l : List Int} (ts : List TMove) (h : stB l = false) : sendAllOf l ts = ([], 0, 1) := by unfold sendAllOf; rw [h]; rfl
theorem sendAllOf_range {l : List Int} {ts : List TMove} {n : Nat} (h : stB l = true) (hn : l.length = n) (h2 : msB (n : Int) ts = false) : sendAllOf l ts = ([], 0, 2) := by unfold sendAllOf; rw [if_pos h, hn, h2]; rfl
theorem sendAllOf_good {l : List Int} {ts : List TMove} {n : Nat} {m : List Int} {q : Int} (h : stB l = true) (hn : l.length = n) (h2 : msB (n : Int) ts = true) (h3 : goS l ts 0 = (m, q)) : sendAllOf l ts = (m, q, 0) := by unfold sendAllOf; rw [if_pos h, hn, if_pos h2, h3]
theorem sendAllOf_len (l : List Int) (ts : List TMove) (hl : l.length ≤ 1048576) : (sendAllOf l ts).1.length ≤ 1048576 := by
  unfold sendAllOf
  split
  · split
    · dsimp only; rw [goS_len]; exact hl
    · simp
  · simp
/-- The numbers behind k moves. -/
def boundL (k : Nat) (m : List Int) : Prop := ∀ i (h : i < m.length), 0 ≤ m[i] ∧ m[i] ≤ 200 + 200 * (k : Int)
theorem boundL_tame {k : Nat} {m : List Int} (h : boundL k m) (hk : k ≤ 40) : tameL m := fun i hi => by have := h i hi; omega
theorem boundL_mov {k : Nat} {m : List Int} {f t : Nat} {x : Int} (h : boundL k m) (hf : f < m.length) (ht : t < m.length) (hx : 1 ≤ x ∧ x ≤ 200) (hp : x ≤ m.getD f 0) : boundL (k + 1) (movL m f t x) := by
  intro i hi
  rw [movL_get hf ht]
  rw [getD_at hf] at hp
  have h1 := h f hf
  have h2 := h t ht
  have h3 := h i (by rw [movL_len] at hi; exact hi)
  split
  · omega
  · split
    · omega
    · omega
theorem boundL_zero {l : List Int} (h : stB l = true) : boundL 0 l := fun i hi => by have := stB_at h i hi; omega
theorem own_kept {w w' : World} {lo : Nat} {e : TypeId} {size n : Nat} {v : Value} {xs : List Value} (h : w.ownsRow lo e size v n xs) (hb : Below w.heap.size w w') : w'.ownsRow lo e size v n xs :=
  h.kept (grown_below hb none) (by cases v.ownBlock <;> simp)

set_option maxHeartbeats 4000000 in
theorem specSendAll_any (w : World) {a0 : Option Addr} {n0 c0 : Nat} (l0 : List Int) (hn0 : Hid (l0.length = n0)) (h0 : RI w a0 l0) (hs0 : n0 ≤ 1048576) (_wf0 : Hid (∀ k ∈ l0, (Lit.int .i64 k).wf = true)) {a1 : Option Addr} {n1 c1 : Nat} (ts1 : List TMove) (hn1 : Hid (ts1.length = n1)) (h1 : RR 3 cMove w a1 ts1) (hs1 : n1 ≤ 1048576) (_wf1 : Hid (∀ t ∈ ts1, wfMove t)) :
    Calls Try.prog 24 #[.slice a0 n0 c0, .slice a1 n1 c1] w (GivesIs2 2 (sendAllOf l0 ts1) w) := by
  have HA : Hid (∀ w', Below w.heap.size w w' → RI w' a0 l0) := fun w' h => h0.below h
  have HT := Lib.hid h1
  have OK := l07Ok_any a0 l0 n0 c0 w hn0 h0 hs0
  clear h0 h1
  cases hv : stB l0 with
  | false =>
    rw [hv] at OK
    have HR := Lib.hid (sendAllOf_bad ts1 hv)
    clear hv
    go_enter Try.func24, Try.ntmps24
    go_wp2_with (go_at_call 37; refine OK.mono ?_; rintro e w' ⟨rfl, rfl⟩)
    refine bodyPost_ret (v := .tuple #[.slice none 0 0, .int .i64 0, .int .i64 1]) (by simp [results, Try.results24, go_sem]) rfl ?_
    exact givesIs2_nil HR.out (Below.refl _ _)
  | true =>
    rw [hv] at OK
    have HV := Lib.hid hv
    clear hv
    have hn10 : 2 ≤ n0 ∧ n0 ≤ 10 := by have := stB_len HV.out; rw [hn0.out] at this; exact this
    have OWN : Hid (∀ W, Below w.heap.size w W → Calls Try.prog 44 #[.slice a0 n0 c0] W (GivesO 2 l0 n0 W)) := fun W h => own_any a0 c0 n0 l0 W hn0 (by omega) hs0 (HA.out W h)
    go_enter Try.func24, Try.ntmps24
    go_wp2_with (go_at_call 37; refine OK.mono ?_; rintro e w' ⟨rfl, rfl⟩)
    go_loopw [7] (fun iv wr => ∃ k : Nat, k ≤ n1 ∧ iv = .int .i64 k ∧ Hid (Below w.heap.size w wr) ∧ Hid (∀ j (h : j < ts1.length), j < k → mvB (n0 : Int) ts1[j] = true)) (fun iv _ => n1 - (intOf iv).toNat)
    case atStart => exact ⟨0, by omega, rfl, Below.refl _ _, fun j _ hj => by omega⟩
    case round =>
      obtain ⟨k, hk, rfl, HBEL, HALL⟩ := hrel
      by_cases hlt : k < n1
      · have hka : k < ts1.length := by rw [hn1.out]; exact hlt
        have HBAD : Hid (mvB (n0 : Int) ts1[k] = false → sendAllOf l0 ts1 = ([], 0, 2)) := fun h => sendAllOf_range HV.out hn0.out (by unfold msB; rw [all_no (f := mvB (n0 : Int)) k hka h]; simp)
        have HOK : Hid (mvB (n0 : Int) ts1[k] = true → ∀ j (h : j < ts1.length), j < k + 1 → mvB (n0 : Int) ts1[j] = true) := fun ht j h hj => if e : j = k then (by subst e; exact ht) else HALL.out j h (by omega)
        obtain ⟨b, off, rfl, hbl, hc⟩ := HT.out.at_ k hka
        have x0 := (HBEL.out.cell (p := ⟨b, off + k * 3 + 0, none⟩) hbl).trans (hc 0 _ rfl)
        have x1 := (HBEL.out.cell (p := ⟨b, off + k * 3 + 1, none⟩) hbl).trans (hc 1 _ rfl)
        have x2 := (HBEL.out.cell (p := ⟨b, off + k * 3 + 2, none⟩) hbl).trans (hc 2 _ rfl)
        simp only [Nat.add_zero] at x0
        clear hc
        generalize ts1[k] = t at x0 x1 x2 HBAD HOK
        have MV := l07Move_any b (off + k * 3) n0 t wr hs0 x0 x1 x2
        have hk0 : (0 : Int) ≤ (k : Int) := by omega
        have hk1 : (k : Int) < (n1 : Int) := by omega
        clear x0 x1 x2
        cases hm : mvB (n0 : Int) t with
        | false =>
          have HR := Lib.hid (HBAD.out hm)
          rw [hm] at MV
          clear HOK HBAD hm
          go_wp2_with (go_at_call 43; refine MV.mono ?_; rintro e w2 ⟨rfl, hb2⟩)
          refine bodyPost_ret (v := .tuple #[.slice none 0 0, .int .i64 0, .int .i64 2]) (by simp [results, Try.results24, go_sem]) rfl ?_
          exact givesIs2_nil HR.out (two_worlds HBEL.out hb2)
        | true =>
          have HOK2 := Lib.hid (HOK.out hm)
          rw [hm] at MV
          clear HOK HBAD hm
          go_wp2_with (go_at_call 43; refine MV.mono ?_; rintro e w2 ⟨rfl, hb2⟩)
          go_roundw
          case rel => exact ⟨k + 1, by omega, by go_num, two_worlds HBEL.out hb2, HOK2⟩
          case measure => simp [intOf]; omega
      · have HAL : Hid (∀ j (h : j < ts1.length), mvB (n0 : Int) ts1[j] = true) := fun j h => HALL.out j h (by rw [hn1.out] at h; omega)
        clear HALL
        by_cases h40 : 40 < n1
        · have HR : Hid (sendAllOf l0 ts1 = ([], 0, 2)) := sendAllOf_range HV.out hn0.out (by unfold msB; rw [hn1.out, show decide (n1 ≤ 40) = false from decide_eq_false (by omega)]; rfl)
          go_wp2
          refine bodyPost_ret (v := .tuple #[.slice none 0 0, .int .i64 0, .int .i64 2]) (by simp [results, Try.results24, go_sem]) rfl ?_
          exact givesIs2_nil HR.out HBEL.out
        · have HMS : Hid (msB (n0 : Int) ts1 = true) := by unfold Hid msB; rw [hn1.out, all_yes (fun j hj => HAL.out j hj), show decide (n1 ≤ 40) = true from decide_eq_true (by omega)]; rfl
          obtain ⟨wo, hwo⟩ : ∃ wo, wo = wr := ⟨wr, rfl⟩
          subst hwo
          go_wp2_with fail
          refine (OWN.out _ HBEL.out).mono ?_
          rintro e w2 ⟨g, cap, rfl, hb2, ho2⟩
          have HG2 : Hid (w.heap.size ≤ g) := by unfold Hid; have := own_ge ho2; have := HBEL.out.size; omega
          have HB2 := Lib.hid (two_worlds HBEL.out hb2)
          have HO2 := Lib.hid (own_lo ho2 HBEL.out.size)
          clear hb2 ho2 HBEL
          go_wp2
          go_loopw [9] (fun iv wr => ∃ (k : Nat) (m : List Int), k ≤ n1 ∧ iv = .int .i64 k ∧ Hid (Below w.heap.size w wr) ∧ Hid (OwnL w.heap.size g n0 cap m wr) ∧ Hid (boundL k m) ∧ Hid (m.length = n0) ∧ Hid (goS l0 ts1 0 = goS m (ts1.drop k) k)) (fun iv _ => n1 - (intOf iv).toNat)
          case atStart => exact ⟨0, l0, by omega, rfl, HB2, HO2, boundL_zero HV.out, hn0, rfl⟩
          case round =>
            obtain ⟨k, m, hk, rfl, HBR, HOR, HBD, HLM, HGS⟩ := hrel
            by_cases hlt : k < n1
            · have hka : k < ts1.length := by rw [hn1.out]; exact hlt
              have hmv := mvB_of (HAL.out k hka)
              obtain ⟨b, off, rfl, hbl, hc⟩ := HT.out.at_ k hka
              have x0 := (HBR.out.cell (p := ⟨b, off + k * 3 + 0, none⟩) hbl).trans (hc 0 _ rfl)
              have x1 := (HBR.out.cell (p := ⟨b, off + k * 3 + 1, none⟩) hbl).trans (hc 1 _ rfl)
              have x2 := (HBR.out.cell (p := ⟨b, off + k * 3 + 2, none⟩) hbl).trans (hc 2 _ rfl)
              simp only [Nat.add_zero] at x0
              clear hc
              obtain ⟨t, ht⟩ : ∃ t, ts1[k] = t := ⟨_, rfl⟩
              rw [ht] at x0 x1 x2 hmv
              obtain ⟨f, t, x⟩ := t
              dsimp only at x0 x1 x2 hmv
              obtain ⟨fn, rfl⟩ : ∃ fn : Nat, f = fn := ⟨f.toNat, by omega⟩
              obtain ⟨tn, rfl⟩ : ∃ tn : Nat, t = tn := ⟨t.toNat, by omega⟩
              have hfn : fn < n0 := by omega
              have htn : tn < n0 := by omega
              have hx : 1 ≤ x ∧ x ≤ 200 := by omega
              have HIT : Hid (x ≤ m.getD fn 0 → goS l0 ts1 0 = goS (movL m fn tn x) (ts1.drop (k + 1)) (k + 1)) := fun h => HGS.out.trans (goS_hit hka ht h)
              have MISS : Hid (¬ x ≤ m.getD fn 0 → goS l0 ts1 0 = (m, (k : Int))) := fun h => HGS.out.trans (goS_miss hka ht h)
              have SD := l07Send_any b (off + k * 3) w.heap.size g n0 cap m fn tn x wr HLM hfn htn (by omega) hx (boundL_tame HBD.out (by omega)) HOR.out (by have := HG2.out; omega) x0 x1 x2
              have hk0 : (0 : Int) ≤ (k : Int) := by omega
              have hk1 : (k : Int) < (n1 : Int) := by omega
              clear x0 x1 x2 ht hmv
              by_cases h3 : x ≤ m.getD fn 0
              · have HN := Lib.hid (HIT.out h3)
                have HSL : Hid (sendL m fn tn x = movL m fn tn x) := if_pos h3
                have HBD2 : Hid (boundL (k + 1) (movL m fn tn x)) := boundL_mov HBD.out (by rw [HLM.out]; exact hfn) (by rw [HLM.out]; exact htn) hx h3
                rw [decide_eq_true h3] at SD
                clear h3 HIT MISS
                go_wp2_with (go_at_call 45; refine SD.mono ?_; rintro e w3 ⟨rfl, hg3, ho3⟩)
                rw [HSL.out] at ho3
                have HB3 : Hid (Below w.heap.size w w3) := HBR.out.grown hg3 HBR.out.size (fun k hk => by injection hk with hk; subst hk; exact HG2.out)
                have HO3 := Lib.hid ho3
                clear hg3 ho3
                go_roundw
                case rel => exact ⟨k + 1, movL m fn tn x, by omega, by go_num, HB3, HO3, HBD2, by unfold Hid; rw [movL_len]; exact HLM.out, HN⟩
                case measure => simp [intOf]; omega
              · have HR : Hid (sendAllOf l0 ts1 = (m, (k : Int), 0)) := sendAllOf_good HV.out hn0.out HMS.out (MISS.out h3)
                have HSL : Hid (sendL m fn tn x = m) := if_neg h3
                rw [decide_eq_false h3] at SD
                clear h3 HIT MISS
                go_wp2_with (go_at_call 45; refine SD.mono ?_; rintro e w3 ⟨rfl, hg3, ho3⟩)
                rw [HSL.out] at ho3
                have HB3 : Hid (Below w.heap.size w w3) := HBR.out.grown hg3 HBR.out.size (fun k hk => by injection hk with hk; subst hk; exact HG2.out)
                have HO3 := Lib.hid ho3
                clear hg3 ho3
                refine bodyPost_ret (v := .tuple #[.slice (some ⟨g, 0, none⟩) n0 cap, .int .i64 (k : Int), .int .i64 0]) (by simp [results, Try.results24, go_sem]) rfl ?_
                exact givesIs2_of HR.out HB3.out HLM.out HO3.out
            · have HR : Hid (sendAllOf l0 ts1 = (m, -1, 0)) := sendAllOf_good HV.out hn0.out HMS.out (HGS.out.trans (goS_end hn1.out (by omega)))
              go_wp2
              refine bodyPost_ret (v := .tuple #[.slice (some ⟨g, 0, none⟩) n0 cap, .int .i64 (-1), .int .i64 0]) (by simp [results, Try.results24, go_sem]) rfl ?_
              exact givesIs2_of HR.out HBR.out HLM.out HOR.out

set_option maxHeartbeats 4000000 in
theorem implSendAll_any (w : World) {a0 : Option Addr} {n0 c0 : Nat} (l0 : List Int) (hn0 : Hid (l0.length = n0)) (h0 : RI w a0 l0) (hs0 : n0 ≤ 1048576) (_wf0 : Hid (∀ k ∈ l0, (Lit.int .i64 k).wf = true)) {a1 : Option Addr} {n1 c1 : Nat} (ts1 : List TMove) (hn1 : Hid (ts1.length = n1)) (h1 : RR 3 cMove w a1 ts1) (hs1 : n1 ≤ 1048576) (_wf1 : Hid (∀ t ∈ ts1, wfMove t)) :
    Calls Try.prog 25 #[.slice a0 n0 c0, .slice a1 n1 c1] w (GivesIs2 2 (sendAllOf l0 ts1) w) := by
  have HA : Hid (∀ w', Below w.heap.size w w' → RI w' a0 l0) := fun w' h => h0.below h
  have HT := Lib.hid h1
  have CS := checkStock_any a0 l0 n0 c0 w hn0 h0 hs0
  have CM := checkMoves_any (stcode l0) n0 a1 ts1 n1 c1 w hn1 h1 hs1 hs0
  have HCODE : Hid (mcode (stcode l0) n0 ts1 = if stB l0 = true then (if msB (n0 : Int) ts1 = true then 0 else 2) else 1) := by
    unfold Hid mcode stcode
    by_cases h : stB l0 = true
    · rw [if_pos h, if_pos h, if_pos rfl]
    · rw [if_neg h, if_neg h, if_neg (by decide)]
  clear h0 h1
  generalize mcode (stcode l0) n0 ts1 = mc at CM HCODE
  generalize stcode l0 = sc at CS CM
  cases hv : stB l0 with
  | false =>
    rw [hv, if_neg (by decide)] at HCODE
    have HR := Lib.hid (sendAllOf_bad ts1 hv)
    have hmc := HCODE.out
    subst hmc
    clear hv
    go_enter Try.func25, Try.ntmps25
    go_wp2_with (first | (go_at_call 47; refine CS.mono ?_; rintro e w' ⟨rfl, rfl⟩) | (go_at_call 46; refine CM.mono ?_; rintro e w1 ⟨rfl, hb1⟩))
    refine bodyPost_ret (v := .tuple #[.slice none 0 0, .int .i64 0, .int .i64 1]) (by simp [results, Try.results25, go_sem]) rfl ?_
    exact givesIs2_nil HR.out hb1
  | true =>
    rw [hv, if_pos rfl] at HCODE
    have HV := Lib.hid hv
    clear hv
    cases hm : msB (n0 : Int) ts1 with
    | false =>
      rw [hm, if_neg (by decide)] at HCODE
      have HR := Lib.hid (sendAllOf_range HV.out hn0.out hm)
      have hmc := HCODE.out
      subst hmc
      clear hm
      go_enter Try.func25, Try.ntmps25
      go_wp2_with (first | (go_at_call 47; refine CS.mono ?_; rintro e w' ⟨rfl, rfl⟩) | (go_at_call 46; refine CM.mono ?_; rintro e w1 ⟨rfl, hb1⟩))
      refine bodyPost_ret (v := .tuple #[.slice none 0 0, .int .i64 0, .int .i64 2]) (by simp [results, Try.results25, go_sem]) rfl ?_
      exact givesIs2_nil HR.out hb1
    | true =>
      rw [hm, if_pos rfl] at HCODE
      have HMS := Lib.hid hm
      have hmc := HCODE.out
      subst hmc
      have h40 : n1 ≤ 40 := by have := msB_few hm; rw [hn1.out] at this; exact this
      have hn10 : 2 ≤ n0 ∧ n0 ≤ 10 := by have := stB_len HV.out; rw [hn0.out] at this; exact this
      have CL : Hid (∀ W, Below w.heap.size w W → Calls Try.prog 49 #[.slice a0 n0 c0] W (GivesO 2 l0 n0 W)) := fun W h => clone_any a0 c0 n0 l0 W hn0 (by omega) hs0 (HA.out W h)
      clear hm
      go_enter Try.func25, Try.ntmps25
      go_wp2_with (first | (go_at_call 47; refine CS.mono ?_; rintro e w' ⟨rfl, rfl⟩) | (go_at_call 46; refine CM.mono ?_; rintro e w1 ⟨rfl, hb1⟩))
      have HB1 := Lib.hid hb1
      refine (CL.out _ HB1.out).mono ?_
      rintro e w2 ⟨g, cap, rfl, hb2, ho2⟩
      have HG2 : Hid (w.heap.size ≤ g) := by unfold Hid; have := own_ge ho2; have := HB1.out.size; omega
      have HB2 := Lib.hid (two_worlds HB1.out hb2)
      have HO2 := Lib.hid (own_lo ho2 HB1.out.size)
      clear hb1 hb2 ho2
      go_wp2
      go_loopw [24] (fun iv wr => ∃ (k : Nat) (m : List Int), k ≤ n1 ∧ iv = .int .i64 k ∧ Hid (Below w.heap.size w wr) ∧ Hid (OwnL w.heap.size g n0 cap m wr) ∧ Hid (boundL k m) ∧ Hid (m.length = n0) ∧ Hid (goS l0 ts1 0 = goS m (ts1.drop k) k)) (fun iv _ => n1 - (intOf iv).toNat)
      case atStart => exact ⟨0, l0, by omega, rfl, HB2, HO2, boundL_zero HV.out, hn0, rfl⟩
      case round =>
        obtain ⟨k, m, hk, rfl, HBR, HOR, HBD, HLM, HGS⟩ := hrel
        by_cases hlt : k < n1
        · have hka : k < ts1.length := by rw [hn1.out]; exact hlt
          have hmv := mvB_of (msB_at HMS.out k hka)
          obtain ⟨b, off, rfl, hbl, hc⟩ := HT.out.at_ k hka
          have x0 := (HBR.out.cell (p := ⟨b, off + k * 3 + 0, none⟩) hbl).trans (hc 0 _ rfl)
          have x1 := (HBR.out.cell (p := ⟨b, off + k * 3 + 1, none⟩) hbl).trans (hc 1 _ rfl)
          have x2 := (HBR.out.cell (p := ⟨b, off + k * 3 + 2, none⟩) hbl).trans (hc 2 _ rfl)
          simp only [Nat.add_zero] at x0
          clear hc
          obtain ⟨t, ht⟩ : ∃ t, ts1[k] = t := ⟨_, rfl⟩
          rw [ht] at x0 x1 x2 hmv
          obtain ⟨f, t, x⟩ := t
          dsimp only at x0 x1 x2 hmv
          obtain ⟨fn, rfl⟩ : ∃ fn : Nat, f = fn := ⟨f.toNat, by omega⟩
          obtain ⟨tn, rfl⟩ : ∃ tn : Nat, t = tn := ⟨t.toNat, by omega⟩
          have hfn : fn < n0 := by omega
          have htn : tn < n0 := by omega
          have hx : 1 ≤ x ∧ x ≤ 200 := by omega
          have HIT : Hid (x ≤ m.getD fn 0 → goS l0 ts1 0 = goS (movL m fn tn x) (ts1.drop (k + 1)) (k + 1)) := fun h => HGS.out.trans (goS_hit hka ht h)
          have MISS : Hid (¬ x ≤ m.getD fn 0 → goS l0 ts1 0 = (m, (k : Int))) := fun h => HGS.out.trans (goS_miss hka ht h)
          have hne : fn ≠ tn := by omega
          have hbox : Below wr.heap.size wr (wr.alloc (.cells #[.int .i64 fn, .int .i64 tn, .int .i64 x] 36)) := (by repeat (first | exact Below.refl _ _ | refine Below.alloc ?_ (by simp; try omega) _ | refine Below.setCell ?_ (by simp; try omega) _))
          have HBX := Lib.hid hbox
          have hws := HBR.out.size
          have IP := isPossible_any (some ⟨g, 0, none⟩) m n0 cap fn tn x (wr.alloc (.cells #[.int .i64 fn, .int .i64 tn, .int .i64 x] 36)) HLM (rowI_RI HLM (own_kept HOR.out hbox)) hfn
          have hk0 : (0 : Int) ≤ (k : Int) := by omega
          have hk1 : (k : Int) < (n1 : Int) := by omega
          clear ht hmv hbox
          by_cases h3 : x ≤ m.getD fn 0
          · have HN := Lib.hid (HIT.out h3)
            have HBD2 : Hid (boundL (k + 1) (movL m fn tn x)) := boundL_mov HBD.out (by rw [HLM.out]; exact hfn) (by rw [HLM.out]; exact htn) hx h3
            have AP : Hid (∀ W, Below (wr.alloc (.cells #[.int .i64 fn, .int .i64 tn, .int .i64 x] 36)).heap.size (wr.alloc (.cells #[.int .i64 fn, .int .i64 tn, .int .i64 x] 36)) W → Calls Try.prog 50 #[.agg #[.int .i64 fn, .int .i64 tn, .int .i64 x], .slice (some ⟨g, 0, none⟩) n0 cap] W fun e w' => e = .returned (.tuple #[]) ∧ W.grownBy w' (some g) ∧ OwnL w.heap.size g n0 cap (movL m fn tn x) w') := fun W h => by
              have hb := two_worlds HBX.out h
              have ho := own_kept HOR.out hb
              exact apply_any w.heap.size g n0 cap m fn tn x W HLM hfn htn hne hx (boundL_tame HBD.out (by omega)) ho (ho.lt g rfl).2
            rw [decide_eq_true h3] at IP
            clear h3 HIT MISS
            go_wp2_with (first | (go_at_call 48; refine IP.mono ?_; rintro e w3 ⟨rfl, hb3⟩; have y0 := kept_cell hb3 (show (wr.alloc (.cells #[.int .i64 fn, .int .i64 tn, .int .i64 x] 36)).cell? ⟨wr.heap.size, 0, none⟩ = some (.int .i64 fn) by simp [go_sem]); have y1 := kept_cell hb3 (show (wr.alloc (.cells #[.int .i64 fn, .int .i64 tn, .int .i64 x] 36)).cell? ⟨wr.heap.size, 1, none⟩ = some (.int .i64 tn) by simp [go_sem]); have y2 := kept_cell hb3 (show (wr.alloc (.cells #[.int .i64 fn, .int .i64 tn, .int .i64 x] 36)).cell? ⟨wr.heap.size, 2, none⟩ = some (.int .i64 x) by simp [go_sem])) | (go_at_call 50; refine (AP.out _ hb3).mono ?_; rintro e w4 ⟨rfl, hg4, ho4⟩))
            have HB3 := Lib.hid (two_worlds HBR.out (two_worlds HBX.out hb3))
            have HB4 : Hid (Below w.heap.size w w4) := HB3.out.grown hg4 HB3.out.size (fun k hk => by injection hk with hk; subst hk; exact HG2.out)
            have HO4 := Lib.hid ho4
            clear hg4 ho4 hb3 y0 y1 y2
            go_roundw
            case rel => exact ⟨k + 1, movL m fn tn x, by omega, by go_num, HB4, HO4, HBD2, by unfold Hid; rw [movL_len]; exact HLM.out, HN⟩
            case measure => simp [intOf]; omega
          · have HR : Hid (sendAllOf l0 ts1 = (m, (k : Int), 0)) := sendAllOf_good HV.out hn0.out HMS.out (MISS.out h3)
            rw [decide_eq_false h3] at IP
            clear h3 HIT MISS
            go_wp2_with (first | (go_at_call 48; refine IP.mono ?_; rintro e w3 ⟨rfl, hb3⟩))
            refine bodyPost_ret (v := .tuple #[.slice (some ⟨g, 0, none⟩) n0 cap, .int .i64 (k : Int), .int .i64 0]) (by simp [results, Try.results25, go_sem]) rfl ?_
            exact givesIs2_of HR.out (two_worlds HBR.out (two_worlds HBX.out hb3)) HLM.out (own_kept (own_kept HOR.out HBX.out) hb3)
        · have HR : Hid (sendAllOf l0 ts1 = (m, -1, 0)) := sendAllOf_good HV.out hn0.out HMS.out (HGS.out.trans (goS_end hn1.out (by omega)))
          go_wp2
          refine bodyPost_ret (v := .tuple #[.slice (some ⟨g, 0, none⟩) n0 cap, .int .i64 (-1), .int .i64 0]) (by simp [results, Try.results25, go_sem]) rfl ?_
          exact givesIs2_of HR.out HBR.out HLM.out HOR.out
end Go.Proofs.Ytoecbbkaokgjeaa
