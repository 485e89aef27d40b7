/-
  Blowers: the walks of the codes; PowerOf and CostOfDay of the model.
-/
import Derived.Test.YtiilgeoahpnkpaaBlow2
namespace Go.Proofs.Ytiilgeoahpnkpaa
open Go.RowKit

theorem checkBlowers_any (a : Option Addr) (ts : List TBlower) (n ca : Nat) (w : World) (hn : Hid (ts.length = n)) (ha : RR 3 cBlower w a ts) (hmax : n ≤ 1048576) :
    Calls Try.prog 71 #[.slice a n ca] w fun e w' => e = .returned (.int .i64 (bcode ts)) ∧ Below w.heap.size w w' := by
  have VB := valBlowers_any a ts n ca w hn ha hmax
  cases h : blsB ts with
  | true =>
    rw [h] at VB
    have HR : Hid (bcode ts = 0) := by unfold Hid bcode; rw [if_pos h]
    clear ha h
    go_enter Try.func71, Try.ntmps71
    go_wp2_with (go_at_call 35; refine VB.mono ?_; rintro e w' ⟨rfl, hb1⟩)
    go_ret
    exact ⟨ret_int HR.out.symm, hb1⟩
  | false =>
    rw [h] at VB
    have HR : Hid (bcode ts = 1) := by unfold Hid bcode; rw [h]; rfl
    clear ha h
    go_enter Try.func71, Try.ntmps71
    go_wp2_with (go_at_call 35; refine VB.mono ?_; rintro e w' ⟨rfl, hb1⟩)
    go_ret
    exact ⟨ret_int HR.out.symm, hb1⟩
theorem checkNeeds_any (a : Option Addr) (ts : List TBlower) (n ca : Nat) (b : Option Addr) (ns : List Int) (m cb : Nat) (w : World) (hn : Hid (ts.length = n)) (ha : RR 3 cBlower w a ts) (hmax : n ≤ 1048576) (hm : Hid (ns.length = m)) (hb : RI w b ns) (hmax2 : m ≤ 1048576) :
    Calls Try.prog 57 #[.slice a n ca, .slice b m cb] w fun e w' => e = .returned (.int .i64 (ncode ts ns)) ∧ Below w.heap.size w w' := by
  have VB := checkBlowers_any a ts n ca w hn ha hmax
  have VN := valNeeds_any b ns m cb w hm hb hmax2
  cases h : neB ns with
  | true =>
    rw [h] at VN
    have HR : Hid (ncode ts ns = bcode ts) := by unfold Hid ncode; rw [if_pos h]
    clear ha hb h
    go_enter Try.func57, Try.ntmps57
    go_wp2_with (first | (go_at_call 37; refine VN.mono ?_; rintro e w' ⟨rfl, rfl⟩) | (go_at_call 71; refine VB.mono ?_; rintro e w' ⟨rfl, hb1⟩))
    go_ret
    exact ⟨ret_int HR.out.symm, hb1⟩
  | false =>
    rw [h] at VN
    have HR : Hid (ncode ts ns = 1) := by unfold Hid ncode; rw [h]; rfl
    clear ha hb h
    go_enter Try.func57, Try.ntmps57
    go_wp2_with (first | (go_at_call 37; refine VN.mono ?_; rintro e w' ⟨rfl, rfl⟩))
    go_ret
    exact ⟨ret_int HR.out.symm, Below.refl _ _⟩
def scode (ts : List TBlower) (f : Int) : Int := if blsB ts = true then (if setB ts.length f = true then 0 else 2) else 1
theorem scode_range {ts : List TBlower} {n : Nat} (hn : ts.length = n) (f x : Int) (hx : n ≤ 4 → x = ((2 ^ n : Nat) : Int) - 1) : rangeCode (bcode ts) f x = scode ts f := by
  unfold rangeCode bcode scode
  by_cases h : blsB ts = true
  · have h4 := (blsB_of h).1
    rw [if_pos h, if_pos h, if_pos rfl, hx (by omega), hn]
    rfl
  · rw [if_neg h, if_neg h, if_neg (by decide)]
theorem checkSet_any (a : Option Addr) (ts : List TBlower) (n ca : Nat) (f : Int) (w : World) (hn : Hid (ts.length = n)) (ha : RR 3 cBlower w a ts) (hmax : n ≤ 1048576) :
    Calls Try.prog 84 #[.slice a n ca, .int .i64 f] w fun e w' => e = .returned (.int .i64 (scode ts f)) ∧ Below w.heap.size w w' := by
  have VB := checkBlowers_any a ts n ca w hn ha hmax
  have HX := Lib.hid (fun x => scode_range hn.out f x)
  have LS := fun W => lastSet_any a n ca W hmax
  clear ha
  go_enter Try.func84, Try.ntmps84
  go_wp2_with (first | (go_at_call 71; refine VB.mono ?_; rintro e w1 ⟨rfl, hb1⟩) | (go_at_call 105; refine (LS _).mono ?_; rintro e w2 ⟨⟨x, rfl, hx⟩, rfl⟩) | (go_at_call 70; refine (checkRange_any _ _ _ _).mono ?_; rintro e w3 ⟨rfl, rfl⟩))
  go_ret
  exact ⟨ret_int (HX.out _ hx), hb1⟩
theorem checkSets_any (a : Option Addr) (ts : List TBlower) (n ca : Nat) (b : Option Addr) (l : List Int) (m cb : Nat) (w : World) (hn : Hid (ts.length = n)) (ha : RR 3 cBlower w a ts) (hmax : n ≤ 1048576) (hm : Hid (l.length = m)) (hb : RI w b l) (hmax2 : m ≤ 1048576) :
    Calls Try.prog 76 #[.slice a n ca, .slice b m cb] w fun e w' => e = .returned (.int .i64 (dcode ts l)) ∧ Below w.heap.size w w' := by
  have VB := checkBlowers_any a ts n ca w hn ha hmax
  have LS := fun W => lastSet_any a n ca W hmax
  have AW : Hid (∀ x W, Below w.heap.size w W → Calls Try.prog 91 #[.slice b m cb, .int .i64 x] W fun e w' => e = .returned (.bool (l.all (fun t => inB t 0 x))) ∧ W = w') := fun x W h => areWithin_any b l m cb x W hm (hb.below h) hmax2
  clear ha hb
  cases h : blsB ts with
  | false =>
    have e1 : bcode ts = 1 := by unfold bcode; rw [h]; rfl
    rw [e1] at VB
    have HR : Hid (dcode ts l = 1) := by unfold Hid dcode; rw [h]; rfl
    clear h e1
    go_enter Try.func76, Try.ntmps76
    go_wp2_with (first | (go_at_call 71; refine VB.mono ?_; rintro e w1 ⟨rfl, hb1⟩))
    go_ret
    exact ⟨ret_int HR.out.symm, hb1⟩
  | true =>
    have e1 : bcode ts = 0 := by unfold bcode; rw [if_pos h]
    have h4 : n ≤ 4 := by rw [← hn.out]; exact (blsB_of h).1
    rw [e1] at VB
    by_cases h24 : m ≤ 24
    · have h25 : (m : Int) ≤ 24 := by omega
      have HD : Hid (∀ x : Int, x = ((2 ^ n : Nat) : Int) - 1 → dcode ts l = if l.all (fun t => inB t 0 x) = true then 0 else 2) := fun x hx => by
        unfold dcode
        rw [if_pos h, dayB_few (by rw [hm.out]; exact h24), hn.out, hx]
        rfl
      clear h e1
      go_enter Try.func76, Try.ntmps76
      go_wp2_with (first | (go_at_call 71; refine VB.mono ?_; rintro e w1 ⟨rfl, hb1⟩; have HB1 := Lib.hid hb1; clear hb1) | (go_at_call 105; refine (LS _).mono ?_; rintro e w2 ⟨⟨x, rfl, hx⟩, rfl⟩; have HX := Lib.hid (HD.out x (hx h4)); clear hx; have AWX := AW.out x _ HB1.out; generalize l.all (fun t => inB t 0 x) = q at AWX HX; cases q) | (go_at_call 91; refine AWX.mono ?_; rintro e w3 ⟨rfl, rfl⟩))
      · go_ret
        exact ⟨ret_int (by rw [HX.out]; rfl), HB1.out⟩
      · go_ret
        exact ⟨ret_int (by rw [HX.out]; rfl), HB1.out⟩
    · have h25 : ¬ (m : Int) ≤ 24 := by omega
      have HR : Hid (dcode ts l = 2) := by unfold Hid dcode; rw [if_pos h, dayB_many (by rw [hm.out]; exact h24)]; rfl
      clear h e1
      go_enter Try.func76, Try.ntmps76
      go_wp2_with (first | (go_at_call 71; refine VB.mono ?_; rintro e w1 ⟨rfl, hb1⟩))
      go_ret
      exact ⟨ret_int HR.out.symm, hb1⟩
def kcode (ts : List TBlower) (l : List Int) (f : Int) : Int := rangeCode (dcode ts l) f ((ts.length : Int) - 1)
theorem checkBlower_any (a : Option Addr) (ts : List TBlower) (n ca : Nat) (b : Option Addr) (l : List Int) (m cb : Nat) (f : Int) (w : World) (hn : Hid (ts.length = n)) (ha : RR 3 cBlower w a ts) (hmax : n ≤ 1048576) (hm : Hid (l.length = m)) (hb : RI w b l) (hmax2 : m ≤ 1048576) :
    Calls Try.prog 92 #[.slice a n ca, .slice b m cb, .int .i64 f] w fun e w' => e = .returned (.int .i64 (kcode ts l f)) ∧ Below w.heap.size w w' := by
  have CS := checkSets_any a ts n ca b l m cb w hn ha hmax hm hb hmax2
  have HR : Hid (kcode ts l f = rangeCode (dcode ts l) f ((n : Int) - 1)) := by unfold Hid kcode; rw [hn.out]
  have hw := wrI (x := (n : Int) - 1) (by omega)
  clear ha hb
  go_enter Try.func92, Try.ntmps92
  go_wp2_with (first | (go_at_call 76; refine CS.mono ?_; rintro e w1 ⟨rfl, hb1⟩) | (go_at_call 70; refine (checkRange_any _ _ _ _).mono ?_; rintro e w3 ⟨rfl, rfl⟩))
  go_ret
  exact ⟨ret_int HR.out.symm, hb1⟩
theorem checkMeeting_any (a : Option Addr) (ts : List TBlower) (n ca : Nat) (c : Option Addr) (ns : List Int) (q cc : Nat) (b : Option Addr) (l : List Int) (m cb : Nat) (w : World) (hn : Hid (ts.length = n)) (ha : RR 3 cBlower w a ts) (hmax : n ≤ 1048576) (hq : Hid (ns.length = q)) (hc : RI w c ns) (hmax1 : q ≤ 1048576) (hm : Hid (l.length = m)) (hb : RI w b l) (hmax2 : m ≤ 1048576) :
    Calls Try.prog 81 #[.slice a n ca, .slice c q cc, .slice b m cb] w fun e w' => e = .returned (.int .i64 (mcode ts ns l)) ∧ Below w.heap.size w w' := by
  have CN := checkNeeds_any a ts n ca c ns q cc w hn ha hmax hq hc hmax1
  have CS : Hid (∀ W, Below w.heap.size w W → Calls Try.prog 76 #[.slice a n ca, .slice b m cb] W fun e w' => e = .returned (.int .i64 (dcode ts l)) ∧ Below W.heap.size W w') := fun W h => checkSets_any a ts n ca b l m cb W hn (ha.below h) hmax hm (hb.below h) hmax2
  clear ha hb hc
  by_cases h : blsB ts = true ∧ neB ns = true
  · have e1 : ncode ts ns = 0 := by unfold ncode bcode; rw [if_pos h.2, if_pos h.1]
    rw [e1] at CN
    rcases eq_ways (m : Int) (q : Int) with ⟨⟨k1, k2⟩, hmq⟩ | ⟨⟨k1, k2⟩, hmq⟩
    · have HR : Hid (mcode ts ns l = dcode ts l) := by unfold Hid mcode; rw [if_pos h, if_pos (by rw [hm.out, hq.out]; omega)]
      clear h e1
      go_enter Try.func81, Try.ntmps81
      go_wp2_with (first | (go_at_call 57; refine CN.mono ?_; rintro e w1 ⟨rfl, hb1⟩) | (go_at_call 76; refine (CS.out _ hb1).mono ?_; rintro e w3 ⟨rfl, hb2⟩))
      go_ret
      exact ⟨ret_int HR.out.symm, hb1.trans (hb2.mono hb1.size)⟩
    · have HR : Hid (mcode ts ns l = 2) := by unfold Hid mcode; rw [if_pos h, if_neg (by rw [hm.out, hq.out]; omega)]
      clear h e1
      go_enter Try.func81, Try.ntmps81
      go_wp2_with (first | (go_at_call 57; refine CN.mono ?_; rintro e w1 ⟨rfl, hb1⟩))
      go_ret
      exact ⟨ret_int HR.out.symm, hb1⟩
  · have e1 : ncode ts ns = 1 := by
      unfold ncode bcode
      by_cases h2 : neB ns = true
      · rw [if_pos h2, if_neg fun h1 => h ⟨h1, h2⟩]
      · rw [if_neg h2]
    rw [e1] at CN
    have HR : Hid (mcode ts ns l = 1) := by unfold Hid mcode; rw [if_neg h]
    clear h e1
    go_enter Try.func81, Try.ntmps81
    go_wp2_with (first | (go_at_call 57; refine CN.mono ?_; rintro e w1 ⟨rfl, hb1⟩))
    go_ret
    exact ⟨ret_int HR.out.symm, hb1⟩

set_option maxHeartbeats 1000000 in
theorem l11Sets_any (a : Option Addr) (ts : List TBlower) (n ca : Nat) (b : Option Addr) (l : List Int) (m cb : Nat) (w : World) (hn : Hid (ts.length = n)) (ha : RR 3 cBlower w a ts) (hmax : n ≤ 1048576) (hm : Hid (l.length = m)) (hb : RI w b l) (hmax2 : m ≤ 1048576) :
    Calls Try.prog 78 #[.slice a n ca, .slice b m cb] w fun e w' => e = .returned (.int .i64 (dcode ts l)) ∧ Below w.heap.size w w' := by
  have OK := l11Ok_any a ts n ca w hn ha hmax
  have HL : Hid (∀ W, Below w.heap.size w W → RI W b l) := fun W h => hb.below h
  clear ha hb
  cases h : blsB ts with
  | false =>
    rw [h] at OK
    have HR : Hid (dcode ts l = 1) := by unfold Hid dcode; rw [h]; rfl
    clear h
    go_enter Try.func78, Try.ntmps78
    go_wp2_with (first | (go_at_call 63; refine OK.mono ?_; rintro e w1 ⟨rfl, hb1⟩))
    go_ret
    exact ⟨ret_int HR.out.symm, hb1⟩
  | true =>
    rw [h] at OK
    have h4 : n ≤ 4 := by rw [← hn.out]; exact (blsB_of h).1
    have HD : Hid (dcode ts l = if dayB n l = true then 0 else 2) := by unfold Hid dcode; rw [if_pos h, hn.out]
    clear h
    go_enter Try.func78, Try.ntmps78
    go_wp2_with (first | (go_at_call 63; refine OK.mono ?_; rintro e w1 ⟨rfl, hb1⟩))
    have HL1 := Lib.hid (HL.out _ hb1)
    have HB1 := Lib.hid hb1
    clear HL hb1
    go_loop [5] (fun i => ∃ k : Nat, k ≤ m ∧ i = .int .i64 k ∧ Hid (∀ j (h : j < l.length), j < k → setB n l[j] = true)) (fun i => m - (intOf i).toNat)
    case atStart => exact ⟨0, by omega, rfl, fun j _ hj => by omega⟩
    case round =>
      obtain ⟨k, hk, rfl, HALL⟩ := hrel
      by_cases hlt : k < m
      · have hka : k < l.length := by rw [hm.out]; exact hlt
        have HBAD : Hid (setB n l[k] = false → dcode ts l = 2) := fun h => by rw [HD.out]; unfold dayB; rw [all_no (f := setB n) k hka h]; simp
        have HOK : Hid (setB n l[k] = true → ∀ j (h : j < l.length), j < k + 1 → setB n l[j] = true) := fun ht j h hj => if e : j = k then (by subst e; exact ht) else HALL.out j h (by omega)
        obtain ⟨b, off, rfl, _, x1⟩ := HL1.out.at_ k hka
        generalize l[k] = t at x1 HBAD HOK
        have hk0 : (0 : Int) ≤ (k : Int) := by omega
        have hk1 : (k : Int) < (m : Int) := by omega
        have HF := fun W => l11Set_any a n ca t W h4
        cases ht : setB n t with
        | true =>
          have HOK2 := Lib.hid (HOK.out ht)
          rw [ht] at HF
          clear HOK HBAD
          go_wp2_with (go_at_call 85; refine (HF _).mono ?_; rintro e w' ⟨rfl, rfl⟩)
          go_round
          case rel => exact ⟨k + 1, by omega, by go_num, HOK2⟩
          case measure => simp [intOf]; omega
        | false =>
          have HR := Lib.hid (HBAD.out ht)
          rw [ht] at HF
          clear HOK HBAD
          go_wp2_with (go_at_call 85; refine (HF _).mono ?_; rintro e w' ⟨rfl, rfl⟩)
          go_ret
          exact ⟨ret_int HR.out.symm, HB1.out⟩
      · by_cases h24 : m ≤ 24
        · have h25 : (m : Int) ≤ 24 := by omega
          have HR : Hid (dcode ts l = 0) := by
            unfold Hid
            rw [HD.out, dayB_few (by rw [hm.out]; exact h24), all_yes (f := setB n) (fun j hj => HALL.out j hj (by rw [hm.out] at hj; omega))]
            rfl
          go_wp2
          go_ret
          exact ⟨ret_int HR.out.symm, HB1.out⟩
        · have h25 : ¬ (m : Int) ≤ 24 := by omega
          have HR : Hid (dcode ts l = 2) := by unfold Hid; rw [HD.out, dayB_many (by rw [hm.out]; exact h24)]; rfl
          go_wp2
          go_ret
          exact ⟨ret_int HR.out.symm, HB1.out⟩
theorem l11One_any (a : Option Addr) (ts : List TBlower) (n ca : Nat) (b : Option Addr) (l : List Int) (m cb : Nat) (f : Int) (w : World) (hn : Hid (ts.length = n)) (ha : RR 3 cBlower w a ts) (hmax : n ≤ 1048576) (hm : Hid (l.length = m)) (hb : RI w b l) (hmax2 : m ≤ 1048576) :
    Calls Try.prog 96 #[.slice a n ca, .slice b m cb, .int .i64 f] w fun e w' => e = .returned (.int .i64 (kcode ts l f)) ∧ Below w.heap.size w w' := by
  have CS := l11Sets_any a ts n ca b l m cb w hn ha hmax hm hb hmax2
  have hw := wrI (x := (n : Int) - 1) (by omega)
  clear ha hb
  rcases eq_ways (dcode ts l) 0 with ⟨⟨k1, k2⟩, hd⟩ | ⟨⟨k1, k2⟩, hd⟩
  · have HF := fun W => l00In_any f 0 ((n : Int) - 1) W
    rw [hd] at CS
    cases h : inB f 0 ((n : Int) - 1) with
    | true =>
      rw [h] at HF
      have HR : Hid (kcode ts l f = 0) := by unfold Hid kcode rangeCode; rw [if_pos hd, hn.out, if_pos h]
      clear h hd k1 k2
      go_enter Try.func96, Try.ntmps96
      go_wp2_with (first | (go_at_call 78; refine CS.mono ?_; rintro e w1 ⟨rfl, hb1⟩) | (go_at_call 74; refine (HF _).mono ?_; rintro e w3 ⟨rfl, rfl⟩))
      go_ret
      exact ⟨ret_int HR.out.symm, hb1⟩
    | false =>
      rw [h] at HF
      have HR : Hid (kcode ts l f = 2) := by unfold Hid kcode rangeCode; rw [if_pos hd, hn.out, if_neg (by rw [h]; decide)]
      clear h hd k1 k2
      go_enter Try.func96, Try.ntmps96
      go_wp2_with (first | (go_at_call 78; refine CS.mono ?_; rintro e w1 ⟨rfl, hb1⟩) | (go_at_call 74; refine (HF _).mono ?_; rintro e w3 ⟨rfl, rfl⟩))
      go_ret
      exact ⟨ret_int HR.out.symm, hb1⟩
  · have HR : Hid (kcode ts l f = dcode ts l) := by unfold Hid kcode rangeCode; rw [if_neg hd]
    clear hd
    go_enter Try.func96, Try.ntmps96
    go_wp2_with (first | (go_at_call 78; refine CS.mono ?_; rintro e w1 ⟨rfl, hb1⟩))
    go_ret
    exact ⟨ret_int HR.out.symm, hb1⟩
end Go.Proofs.Ytiilgeoahpnkpaa
