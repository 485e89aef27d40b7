/-
  The walks of the test of addresses: the model's ValidAddresses, the program's ValidAddresses and checkAddresses.
-/
import Derived.Test.YtpkkibnpjhlfmaaDoorAdrOk
namespace Go.Proofs.YtpkkibnpjhlfmaaDoor
open Go.RowKit

theorem contains_any (b off k ca : Nat) (ss : List ByteArray) (x : ByteArray) (w : World) (hk : k ≤ ss.length) (hb : k ≤ 1048576) (hc : ∀ i (h : i < ss.length), w.cell? ⟨b, off + i, none⟩ = some (.string ss[i])) :
    Calls Tryd.prog 65 #[.slice (some ⟨b, off, none⟩) k ca, .string x] w fun e w' => (∃ r : Bool, e = .returned (.bool r) ∧ (r = true ↔ ∃ j, ∃ hj : j < ss.length, j < k ∧ ss[j] = x)) ∧ w = w' := by
  refine (Any.slices_Contains_string Tryd.lays110 b off k ca ss x w hk (by omega) (fun j hj => by rw [hc j hj, List.getD_eq_getElem?_getD, List.getElem?_eq_getElem hj]; rfl)).mono ?_
  rintro e w' ⟨rfl, rfl⟩
  refine ⟨⟨_, rfl, ?_⟩, rfl⟩
  rw [Lib.containsS_iff]
  constructor
  · intro h
    obtain ⟨i, hi, e⟩ := List.getElem_of_mem h
    simp at hi
    exact ⟨i, by omega, by omega, by rw [← e, List.getElem_take]⟩
  · rintro ⟨j, hj, hjk, rfl⟩
    have hm : (ss.take k)[j]'(by simp; omega) = ss[j] := List.getElem_take
    rw [← hm]
    exact List.getElem_mem _

theorem specValid_any (g : Int) (a : Option Addr) (ss : List ByteArray) (n ca : Nat) (w : World) (hn : Hid (ss.length = n)) (ha : RS w a ss) (hmax : n ≤ 1048576) (hsz : Hid (∀ s ∈ ss, s.size ≤ 1048576)) :
    Calls Tryd.prog 24 #[.int .i64 g, .slice a n ca] w fun e w' => e = .returned (.bool (okB g (bls ss))) ∧ Below w.heap.size w w' := by
  have HW := l05Ok_any g a ss n ca w hn ha hmax hsz
  generalize okB g (bls ss) = r at HW
  clear ha
  go_enter Tryd.func24, Tryd.ntmps24
  go_wp2_with (first | (go_at_call 49; refine HW.mono ?_; rintro e w' ⟨rfl, hb1⟩))
  go_ret
  exact ⟨rfl, hb1⟩

theorem all_good {g : Nat} {ss : List ByteArray} (h : allWords g ss = true) (i : Nat) (hi : i < ss.length) (t : ByteArray) (ht : ss[i] = t) : wordB (g : Int).toNat (bl t) = true := by
  subst ht; rw [Int.toNat_natCast]; exact allWords_at h i hi
theorem not_all {g : Nat} {ss : List ByteArray} (h : allWords g ss = false) : okB (g : Int) (bls ss) = false := by
  refine okB_no fun h2 => ?_
  rw [allWords_yes (g := g) (fun i hi => ?_)] at h
  · cases h
  · have := (h2.2 i (by rw [bls_length]; exact hi)).1
    rwa [bls_get _ _ hi, Int.toNat_natCast] at this

set_option maxRecDepth 100000 in
set_option maxHeartbeats 8000000 in
theorem implValid_any (g : Int) (a : Option Addr) (ss : List ByteArray) (n ca : Nat) (w : World) (hn : Hid (ss.length = n)) (ha : RS w a ss) (hmax : n ≤ 1048576) (hcap : n ≤ ca) (hcm : ca ≤ 9223372036854775807) (hsz : Hid (∀ s ∈ ss, s.size ≤ 1048576)) :
    Calls Tryd.prog 23 #[.int .i64 g, .slice a n ca] w fun e w' => e = .returned (.bool (okB g (bls ss))) ∧ Below w.heap.size w w' := by
  by_cases hg : 2 ≤ g ∧ g ≤ 4
  · have ig : inB g 2 4 = true := inB_of hg
    by_cases hm : 40 < n
    · have HR : Hid (okB g (bls ss) = false) := okB_many (by rw [hn.out]; exact hm)
      clear ha hg
      go_enter Tryd.func23, Tryd.ntmps23
      go_wp2_with (first | (go_at_call 64; refine (isWithin_any _ _ _ _).mono ?_; rintro e w' ⟨rfl, rfl⟩))
      go_ret
      exact ⟨ret_bool HR.out.symm, Below.refl _ _⟩
    · obtain ⟨gn, rfl⟩ : ∃ gn : Nat, g = gn := ⟨g.toNat, by omega⟩
      have HA := areWords_any gn (by omega) a ss n ca w hn ha hmax hsz
      cases haw : allWords gn ss with
      | false =>
        have HR : Hid (okB gn (bls ss) = false) := not_all haw
        rw [haw] at HA
        clear ha hg
        go_enter Tryd.func23, Tryd.ntmps23
        go_wp2_with (first | (go_at_call 64; refine (isWithin_any _ _ _ _).mono ?_; rintro e w' ⟨rfl, rfl⟩) | (go_at_call 45; refine HA.mono ?_; rintro e w1 ⟨rfl, hb1⟩))
        go_ret
        exact ⟨ret_bool HR.out.symm, hb1⟩
      | true =>
        rw [haw] at HA
        by_cases hz : n = 0
        · have HZ := Lib.hid hz
          clear hz
          have HR : Hid (okB gn (bls ss) = true) := okB_good hg.1 hg.2 (by rw [hn.out, HZ.out]; omega) (fun i hi => by rw [hn.out, HZ.out] at hi; omega)
          clear hg ha
          go_enter Tryd.func23, Tryd.ntmps23
          go_wp2_with (first | (go_at_call 64; refine (isWithin_any _ _ _ _).mono ?_; rintro e w' ⟨rfl, rfl⟩) | (go_at_call 45; refine HA.mono ?_; rintro e w1 ⟨rfl, hb1⟩))
          go_loopw [23] (fun i wr => ∃ k : Nat, k ≤ n ∧ i = .int .i64 k ∧ wr = w1) (fun _ _ => 0)
          case atStart => exact ⟨0, by omega, rfl, rfl⟩
          case round =>
            obtain ⟨k, hk, rfl, rfl⟩ := hrel
            have hlt : ¬ k < n := by rw [HZ.out]; omega
            go_wp2
            go_ret
            exact ⟨ret_bool HR.out.symm, hb1⟩
        · obtain ⟨b, off, rfl, hb, hc⟩ := ha.addr (by rw [hn.out]; omega)
          have HC := Lib.hid hc
          have z1 : w.cell? ⟨b, off + 0, none⟩ = some (.string (ss[0]'(by rw [hn.out]; omega))) := hc 0 (by rw [hn.out]; omega)
          clear hc ha
          obtain ⟨t0, ht0⟩ : ∃ t0, ss[0]'(by rw [hn.out]; omega) = t0 := ⟨_, rfl⟩
          have HT0 := Lib.hid ht0
          rw [ht0, Nat.add_zero] at z1
          have Z1 := Lib.hid z1
          have hs0 : t0.size ≤ 1048576 := by rw [← ht0]; exact hsz.out _ (List.getElem_mem _)
          have HAW := Lib.hid haw
          clear z1 ht0 haw
          go_enter Tryd.func23, Tryd.ntmps23
          go_wp2_with (first | (go_at_call 64; refine (isWithin_any _ _ _ _).mono ?_; rintro e w' ⟨rfl, rfl⟩) | (go_at_call 45; refine HA.mono ?_; rintro e w1 ⟨rfl, hb1⟩))
          have HB := Lib.hid hb1
          have hbw : b < w1.heap.size := Nat.lt_of_lt_of_le hb hb1.size
          clear hb1
          go_loopw [23] (fun iv wr => ∃ k : Nat, k ≤ n ∧ iv = .int .i64 k ∧ wr = w1 ∧ Hid (∀ j, j < k → GoodA gn ss j)) (fun iv _ => n - (intOf iv).toNat)
          case atStart => exact ⟨0, by omega, rfl, rfl, fun j hj => by omega⟩
          case round =>
            obtain ⟨k, hk, rfl, rfl, HALL⟩ := hrel
            by_cases hlt : k < n
            · have hka : k < ss.length := by rw [hn.out]; exact hlt
              have HCW : Hid (∀ i (h : i < ss.length), wr.cell? ⟨b, off + i, none⟩ = some (.string ss[i])) := fun i h => (HB.out.cell (p := ⟨b, off + i, none⟩) hb).trans (HC.out i h)
              have x1 := HCW.out k hka
              obtain ⟨t, ht⟩ : ∃ t, ss[k] = t := ⟨_, rfl⟩
              have HT := Lib.hid ht
              rw [ht] at x1
              have hst : t.size ≤ 1048576 := by rw [← ht]; exact hsz.out _ (List.getElem_mem _)
              clear ht
              have z1 := Z1.out
              rw [← HB.out.cell (p := ⟨_, _, none⟩) hb] at z1
              have hk0 : (0 : Int) ≤ (k : Int) := by omega
              have hk1 : (k : Int) < (n : Int) := by omega
              have hk2 : (k : Int) ≤ (ca : Int) := by omega
              have hn0 : (0 : Int) < (n : Int) := by omega
              have HNL : Hid (¬ t.size = t0.size → okB gn (bls ss) = false) := fun h => okB_bad k hka (not_len hka HT.out HT0.out h)
              by_cases hl : t.size = t0.size
              · have hne : ((t.size : Int) != (t0.size : Int)) = false := by simp [hl]
                have HL := Lib.hid hl
                clear hl
                go_wp2_with fail
                refine (contains_any b off k ca ss t _ (by omega) (by omega) HCW.out).mono ?_
                rintro e w2 ⟨⟨q, rfl, hq⟩, rfl⟩
                have HQ := Lib.hid hq
                clear hq
                cases q with
                | true =>
                  have HR : Hid (okB gn (bls ss) = false) := by
                    obtain ⟨j, hj, hjk, e⟩ := HQ.out.1 rfl
                    exact okB_bad k hka (not_new hka hjk HT.out e)
                  go_wp2
                  go_ret
                  exact ⟨ret_bool HR.out.symm, HB.out⟩
                | false =>
                  have HG2 : Hid (∀ j, j < k + 1 → GoodA gn ss j) := fun j hj => if e : j = k then (by subst e; exact good_of hka HT.out HT0.out (all_good HAW.out _ hka _ HT.out) HL.out (fun q hq hqk e => by have := HQ.out.2 ⟨q, hq, hqk, e⟩; cases this)) else HALL.out j (by omega)
                  go_wp2
                  go_roundw
                  case rel => first | exact ⟨k + 1, by omega, by go_num, HG2.out⟩ | exact ⟨k + 1, by omega, by go_num, trivial, HG2.out⟩ | exact ⟨k + 1, by omega, by go_num, rfl, HG2.out⟩
                  case measure => simp [intOf]; omega
              · have hne : ((t.size : Int) != (t0.size : Int)) = true := by rw [bne_iff_ne]; omega
                have HR := Lib.hid (HNL.out hl)
                clear hl
                go_wp2
                go_ret
                exact ⟨ret_bool HR.out.symm, HB.out⟩
            · have HR : Hid (okB gn (bls ss) = true) := okB_good hg.1 hg.2 (by rw [hn.out]; omega) (fun i hi => HALL.out i (by rw [hn.out] at hi; omega))
              go_wp2
              go_ret
              exact ⟨ret_bool HR.out.symm, HB.out⟩
  · have ig : inB g 2 4 = false := inB_no hg
    have HR : Hid (okB g (bls ss) = false) := okB_signs hg
    clear ha hg
    go_enter Tryd.func23, Tryd.ntmps23
    go_wp2_with (first | (go_at_call 64; refine (isWithin_any _ _ _ _).mono ?_; rintro e w' ⟨rfl, rfl⟩))
    go_ret
    exact ⟨ret_bool HR.out.symm, Below.refl _ _⟩

/-- The code of addresses, of which there must be at least so many. -/
def codeA (g : Int) (ss : List ByteArray) (least : Int) : Int := if okB g (bls ss) = true then (if (ss.length : Int) < least then 3 else 0) else 1
theorem codeA_bad {g : Int} {ss : List ByteArray} {l : Int} (h : okB g (bls ss) = false) : codeA g ss l = 1 := by unfold codeA; rw [if_neg (by rw [h]; simp)]
theorem codeA_few {g : Int} {ss : List ByteArray} {l : Int} (h : okB g (bls ss) = true) (h2 : (ss.length : Int) < l) : codeA g ss l = 3 := by unfold codeA; rw [if_pos h, if_pos h2]
theorem codeA_ok {g : Int} {ss : List ByteArray} {l : Int} (h : okB g (bls ss) = true) (h2 : ¬ (ss.length : Int) < l) : codeA g ss l = 0 := by unfold codeA; rw [if_pos h, if_neg h2]
set_option maxRecDepth 100000 in
theorem checkA_any (g : Int) (a : Option Addr) (ss : List ByteArray) (n ca : Nat) (l : Int) (w : World) (hn : Hid (ss.length = n)) (ha : RS w a ss) (hmax : n ≤ 1048576) (hcap : n ≤ ca) (hcm : ca ≤ 9223372036854775807) (hsz : Hid (∀ s ∈ ss, s.size ≤ 1048576)) :
    Calls Tryd.prog 52 #[.int .i64 g, .slice a n ca, .int .i64 l] w fun e w' => e = .returned (.int .i64 (codeA g ss l)) ∧ Below w.heap.size w w' := by
  have HW := implValid_any g a ss n ca w hn ha hmax hcap hcm hsz
  clear ha
  cases ho : okB g (bls ss) with
  | false =>
    have HR := Lib.hid (codeA_bad (l := l) ho)
    rw [ho] at HW
    go_enter Tryd.func52, Tryd.ntmps52
    go_wp2_with (first | (go_at_call 23; refine HW.mono ?_; rintro e w' ⟨rfl, hb1⟩))
    go_ret
    exact ⟨ret_int HR.out.symm, hb1⟩
  | true =>
    rw [ho] at HW
    by_cases hl : (n : Int) < l
    · have HR := Lib.hid (codeA_few ho (l := l) (by rw [hn.out]; exact hl))
      go_enter Tryd.func52, Tryd.ntmps52
      go_wp2_with (first | (go_at_call 23; refine HW.mono ?_; rintro e w' ⟨rfl, hb1⟩))
      go_ret
      exact ⟨ret_int HR.out.symm, hb1⟩
    · have HR := Lib.hid (codeA_ok ho (l := l) (by rw [hn.out]; exact hl))
      go_enter Tryd.func52, Tryd.ntmps52
      go_wp2_with (first | (go_at_call 23; refine HW.mono ?_; rintro e w' ⟨rfl, hb1⟩))
      go_ret
      exact ⟨ret_int HR.out.symm, hb1⟩
end Go.Proofs.YtpkkibnpjhlfmaaDoor
