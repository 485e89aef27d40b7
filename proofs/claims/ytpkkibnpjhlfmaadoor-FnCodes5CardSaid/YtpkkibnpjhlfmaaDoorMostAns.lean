/-
  MostAddresses: what it answers, and the program's walk.
-/
import Derived.Test.YtpkkibnpjhlfmaaDoorMostFar
import Derived.Test.YtpkkibnpjhlfmaaDoorLeastAns
import Derived.Test.YtpkkibnpjhlfmaaDoorDraw5c
namespace Go.Proofs.YtpkkibnpjhlfmaaDoor
open Go.RowKit

/-- Two words are far enough from each other. -/
def fitB (d : Int) (a b : ByteArray) : Bool := decide (d ≤ ((farL (bl a) (bl b) : Nat) : Int))
theorem near_fit (d : Int) (a b : ByteArray) (h : a.size = b.size) : (!nearB [b] a d) = fitB d a b := by
  unfold nearB fitB
  rw [farL_symm (x := bl a) (y := bl b) (by rw [bl_length, bl_length]; exact h)]
  simp
  by_cases hd : ((farL (bl b) (bl a) : Nat) : Int) < d <;> simp [hd] <;> omega
/-- The far words as sets, none for what is no word. -/
def farF (ss : List ByteArray) (d : Int) (N i : Nat) : Nat := if i < N then farM ss d i N else 0
theorem farF_lt (ss : List ByteArray) (d : Int) (N i : Nat) (h : N ≤ 32) : farF ss d N i < 4294967296 := by
  unfold farF
  split
  · exact farM_lt ss d i N h
  · omega
theorem farF_bit {ss : List ByteArray} {d : Int} {N a b : Nat} : ftF (farF ss d N) a b = (decide (a < N) && (decide (b < N) && !nearB [ss.getD b ByteArray.empty] (ss.getD a ByteArray.empty) d)) := by
  unfold ftF farF
  by_cases ha : a < N
  · rw [if_pos ha]
    unfold farM
    rw [setN_bit]
    simp [ha]
  · rw [if_neg ha]
    simp [ha]
theorem getD_size {ss : List ByteArray} {r N a : Nat} (hn : ss.length = N) (he : ∀ s ∈ ss, s.size = r) (h : a < N) : (ss.getD a ByteArray.empty).size = r := by
  rw [List.getD_eq_getElem?_getD, List.getElem?_eq_getElem (by omega)]
  exact he _ (List.getElem_mem _)
theorem farF_fit {ss : List ByteArray} {d : Int} {N r a b : Nat} (hn : ss.length = N) (he : ∀ s ∈ ss, s.size = r) (ha : a < N) (hb : b < N) : ftF (farF ss d N) a b = fitB d (ss.getD a ByteArray.empty) (ss.getD b ByteArray.empty) := by
  rw [farF_bit, near_fit _ _ _ (by rw [getD_size hn he ha, getD_size hn he hb])]
  simp [ha, hb]
theorem fitB_symm (d : Int) (a b : ByteArray) (h : a.size = b.size) : fitB d a b = fitB d b a := by
  unfold fitB; rw [farL_symm (by rw [bl_length, bl_length]; exact h)]
theorem farF_symm {ss : List ByteArray} {d : Int} {N r : Nat} (hn : ss.length = N) (he : ∀ s ∈ ss, s.size = r) (a b : Nat) : ftF (farF ss d N) a b = ftF (farF ss d N) b a := by
  by_cases ha : a < N
  · by_cases hb : b < N
    · rw [farF_fit hn he ha hb, farF_fit hn he hb ha, fitB_symm _ _ _ (by rw [getD_size hn he ha, getD_size hn he hb])]
    · rw [farF_bit, farF_bit]; simp [hb]
  · rw [farF_bit, farF_bit]; simp [ha]
theorem bitsL_full {N : Nat} (h : N ≤ 64) : bitsL (2 ^ N - 1) = List.range N := by
  unfold bitsL
  obtain ⟨k, hk⟩ : ∃ k, 64 = N + k := ⟨64 - N, by omega⟩
  rw [hk, List.range_add, List.filter_append]
  have e1 : (List.range N).filter (fun i => (2 ^ N - 1).testBit i) = List.range N := List.filter_eq_self.2 (fun a ha => by rw [Nat.testBit_two_pow_sub_one]; simpa using ha)
  have e2 : ((List.range k).map (N + ·)).filter (fun i => (2 ^ N - 1).testBit i) = [] := List.filter_eq_nil_iff.2 (fun a ha => by
    obtain ⟨b, _, rfl⟩ := List.mem_map.1 ha
    rw [Nat.testBit_two_pow_sub_one]; simp)
  rw [e1, e2, List.append_nil]
theorem map_getD_range (ss : List ByteArray) : (List.range ss.length).map (fun i => ss.getD i ByteArray.empty) = ss := by
  apply List.ext_getElem?
  intro i
  rw [List.getElem?_map]
  by_cases h : i < ss.length
  · rw [List.getElem?_range h, List.getElem?_eq_getElem h]
    simp [List.getD_eq_getElem?_getD, List.getElem?_eq_getElem h]
  · rw [List.getElem?_eq_none (by simp; omega), List.getElem?_eq_none (by omega)]; rfl
theorem om_far {ss : List ByteArray} {d : Int} {N r : Nat} (hn : ss.length = N) (he : ∀ s ∈ ss, s.size = r) (h : N ≤ 32) : om (ftF (farF ss d N)) (bitsL (2 ^ N - 1)) = om (fitB d) ss := by
  rw [bitsL_full (by omega)]
  have e := om_map (fitB d) (fun i => ss.getD i ByteArray.empty) N (List.range N) (by simp)
  rw [← hn, map_getD_range, hn] at e
  rw [e]
  exact om_congr (fun a ha b hb => farF_fit hn he (by simpa using ha) (by simpa using hb))
def mostAns (g r d : Int) : Int × Int := if codeW g r d 32 = 0 then (((om (fitB d) (bas (allW g.toNat r.toNat)) : Nat) : Int), 0) else (0, codeW g r d 32)
theorem mostAns_ok {g r d : Int} (h : codeW g r d 32 = 0) : mostAns g r d = (((om (fitB d) (bas (allW g.toNat r.toNat)) : Nat) : Int), 0) := if_pos h
theorem mostAns_no {g r d : Int} (h : ¬ codeW g r d 32 = 0) : mostAns g r d = (0, codeW g r d 32) := if_neg h
theorem codeW_zero {g r d most : Int} (h : codeW g r d most = 0) : 2 ≤ g ∧ g ≤ 4 ∧ 1 ≤ r ∧ r ≤ 8 ∧ 1 ≤ d ∧ d ≤ r ∧ ((g.toNat ^ r.toNat : Nat) : Int) ≤ most := by
  unfold codeW at h
  split at h
  · rename_i hc
    split at h
    · omega
    · obtain ⟨h1, h2, h3, h4, h5, h6⟩ := hc
      exact ⟨h1, h2, h3, h4, h5, h6, by omega⟩
  · omega

set_option maxRecDepth 100000 in
set_option maxHeartbeats 8000000 in
theorem implMost_any (g r d : Int) (w : World) (hT : Hid (∀ W, Below w.heap.size w W → BitTab W)) :
    Calls Tryd.prog 29 #[.int .i64 g, .int .i64 r, .int .i64 d] w fun e w' => e = .returned (.tuple #[.int .i64 (mostAns g r d).1, .int .i64 (mostAns g r d).2]) ∧ Below w.heap.size w w' := by
  by_cases hc : codeW g r d 32 = 0
  · have HR := Lib.hid (mostAns_ok hc)
    obtain ⟨c1, c2, c3, c4, c5, c6, c7⟩ := codeW_zero hc
    have HCK := fun W => check_any g r d 32 W
    rw [hc] at HCK
    obtain ⟨gn, rfl⟩ : ∃ gn : Nat, g = gn := ⟨g.toNat, by omega⟩
    obtain ⟨rn, rfl⟩ : ∃ rn : Nat, r = rn := ⟨r.toNat, by omega⟩
    rw [Int.toNat_natCast, Int.toNat_natCast] at HR c7
    have hN : gn ^ rn ≤ 32 := by omega
    have HFW := fun W => farWords_any gn rn d (by omega) (by omega) (by omega) hN W
    have HCT := fun W => count_any gn rn (by omega) (by omega) (by omega) W
    have HEA : ∀ s ∈ bas (allW gn rn), s.size = rn := bas_eachC
    have HN : (bas (allW gn rn)).length = gn ^ rn := by rw [bas_length, allW_length (by omega)]
    generalize bas (allW gn rn) = all at HR HFW HEA HN
    generalize gn ^ rn = N at hN HFW HCT HN c7
    have HOM := Lib.hid (om_far (d := d) HN HEA hN)
    have hp := pow_32 hN
    have hp1 : 1 ≤ 2 ^ N := Nat.one_le_two_pow
    have HX : Hid (2 ^ N - 1 < 2 ^ N) := by unfold Hid; omega
    have HLB : Hid ((bitsL (2 ^ N - 1)).length ≤ 32) := by unfold Hid; rw [bitsL_full (by omega)]; simpa using hN
    have HXT := fun fb fc gb (hb0 : w.heap.size ≤ gb) (hne : fb ≠ gb) => extend_any (farF all d N) N fb fc gb w hb0 hne hN (fun i _ => farF_lt all d N i hN) (fun i _ => by have := farF_lt all d N i hN; omega) (fun a b _ _ => farF_symm HN HEA a b) hT (2 ^ N - 1) HX.out 0 0
    rw [HOM.out] at HXT
    have hsh : IntKind.u64.wrap (2 ^ N) = ((2 ^ N : Nat) : Int) := shl_u64 N (by omega)
    have hsub : IntKind.u64.wrap (((2 ^ N : Nat) : Int) - 1) = ((2 ^ N - 1 : Nat) : Int) := by
      rw [IntKind.wrap_u64]; omega
    clear HX HOM
    generalize 2 ^ N - 1 = M at HXT HLB hsub
    generalize hPP : (2 ^ N : Nat) = P2 at hsh hsub hp hp1
    clear hc HEA HN hT hPP
    go_enter Tryd.func29, Tryd.ntmps29
    go_wp2_with (first | (go_at_call 67; refine (newKind_any _ _ _ _).mono ?_; rintro e w1 ⟨rfl, hb1⟩))
    have HB1 := Lib.hid (Below.trans hb1 (show Below w.heap.size w1 (w1.alloc (.cells #[.int .i64 (gn : Int), .int .i64 (rn : Int), .int .i64 d] 83)) from (Below.refl _ _).alloc hb1.size _))
    have hz1 := hb1.size
    clear hb1
    go_wp2_with fail
    refine (HCK _).mono ?_
    rintro e w2 ⟨rfl, hb2⟩
    have hq2 := (hb2.block w1.heap.size (by simp)).trans (heap_alloc_new w1 _)
    have p0 := cell_of_row w2 w1.heap.size 0 _ _ _ hq2
    have p1 := cell_of_row w2 w1.heap.size 1 _ _ _ hq2
    have p2 := cell_of_row w2 w1.heap.size 2 _ _ _ hq2
    simp only [List.getElem?_toArray, List.getElem?_cons_zero, List.getElem?_cons_succ] at p0 p1 p2
    have HQ2 := Lib.hid hq2
    have hz2 := hb2.size
    simp at hz2
    have HB2 := Lib.hid (two_worlds' HB1.out (hb2.mono (Nat.le_refl _)))
    clear hq2 hb2 HB1
    go_wp2_with fail
    refine (HFW _).mono ?_
    rintro e w3 ⟨fb, rfl, hfb, hfl, hb3, HF3⟩
    have hq3 := (hb3.block w1.heap.size (by omega)).trans HQ2.out
    have p0' := cell_of_row w3 w1.heap.size 0 _ _ _ hq3
    have p1' := cell_of_row w3 w1.heap.size 1 _ _ _ hq3
    simp only [List.getElem?_toArray, List.getElem?_cons_zero, List.getElem?_cons_succ] at p0' p1'
    have hz3 := hb3.size
    have HB3 := Lib.hid (two_worlds' HB2.out hb3)
    have ea : ∀ o, (w3.alloc o).cell? ⟨w1.heap.size, 0, none⟩ = some (.int .i64 (gn : Int)) := fun o => ((Below.refl w3.heap.size w3).alloc (Nat.le_refl _) o).cell (p := ⟨w1.heap.size, 0, none⟩) (by show w1.heap.size < w3.heap.size; omega) |>.trans p0'
    have eb : ∀ o, (w3.alloc o).cell? ⟨w1.heap.size, 1, none⟩ = some (.int .i64 (rn : Int)) := fun o => ((Below.refl w3.heap.size w3).alloc (Nat.le_refl _) o).cell (p := ⟨w1.heap.size, 1, none⟩) (by show w1.heap.size < w3.heap.size; omega) |>.trans p1'
    clear hq3 hb3 HB2 HQ2 p0 p1 p2
    go_wp2_with fail
    refine (HCT _).mono ?_
    rintro e w4 ⟨rfl, hb4⟩
    have hz4 := hb4.size
    simp at hz4
    have HB4 := Lib.hid (two_worlds' (Below.trans HB3.out (show Below w.heap.size w3 (w3.alloc _) from (Below.refl _ _).alloc (by omega) _)) hb4)
    have HS4 : Hid (Srch (farF all d N) N fb N w3.heap.size 0 w4) := by
      refine ⟨(hb4.block _ (by simp)).trans (heap_alloc_new w3 _), fun i hi => ?_⟩
      have e1 : w4.cell? ⟨fb, i, none⟩ = w3.cell? ⟨fb, i, none⟩ := (hb4.cell (p := ⟨fb, i, none⟩) (by simp; omega)).trans ((show Below w3.heap.size w3 (w3.alloc _) from (by repeat (first | exact Below.refl _ _ | refine Below.alloc ?_ (by simp; try omega) _ | refine Below.setCell ?_ (by simp; try omega) _))).cell (p := ⟨fb, i, none⟩) hfl)
      rw [e1, HF3.out i hi]
      unfold farF
      rw [if_pos hi]
    clear hb4 HB3 HF3
    go_wp2_with fail
    refine (HXT fb N w3.heap.size (by omega) (by omega) w4 (by have := HLB.out; omega) (by omega) HS4.out HB4.out).mono ?_
    rintro e w5 ⟨rfl, hs5, hg5⟩
    rw [Nat.zero_add, Nat.zero_max] at hs5
    have r1 := cell_of_row w5 w3.heap.size 1 _ _ _ hs5.1
    simp only [List.getElem?_toArray, List.getElem?_cons_zero, List.getElem?_cons_succ] at r1
    have HB5 := Lib.hid (below_gb HB4.out hg5 (by omega))
    clear hs5 hg5
    go_wp2
    exact bodyPost_ret (v := .tuple #[.int .i64 ((om (fitB d) all : Nat) : Int), .int .i64 0]) (by simp [results, Tryd.results29, go_sem]) rfl ⟨ret_pairI HR.out, HB5.out⟩
  · have HR := Lib.hid (mostAns_no hc)
    have HCK := fun W => check_any g r d 32 W
    rcases eq_ways (codeW g r d 32) 0 with ⟨⟨e1, e2⟩, e3⟩ | ⟨⟨e1, e2⟩, e3⟩
    · exact absurd e3 hc
    · generalize codeW g r d 32 = cd at *
      clear hc e3
      go_enter Tryd.func29, Tryd.ntmps29
      go_wp2_with (first | (go_at_call 67; refine (newKind_any _ _ _ _).mono ?_; rintro e w1 ⟨rfl, hb1⟩) | (go_at_call 68; refine (HCK _).mono ?_; rintro e w2 ⟨rfl, hb2⟩))
      exact bodyPost_ret (v := .tuple #[.int .i64 0, .int .i64 cd]) (by simp [results, Tryd.results29, go_sem]) rfl ⟨ret_pairI HR.out, two_worlds' (Below.trans hb1 ((Below.refl _ _).alloc hb1.size _)) hb2⟩
end Go.Proofs.YtpkkibnpjhlfmaaDoor
