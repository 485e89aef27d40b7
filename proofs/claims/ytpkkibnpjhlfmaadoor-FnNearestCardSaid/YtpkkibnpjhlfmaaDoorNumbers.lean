/-
  MisreadAs: the program's walk.
-/
import Derived.Test.YtpkkibnpjhlfmaaDoorMisread
import Derived.Test.YtpkkibnpjhlfmaaDoorNearImpl
namespace Go.Proofs.YtpkkibnpjhlfmaaDoor
open Go.RowKit

/-- The code of a number beside something that should be valid. -/
def rangeC (c x m : Int) : Int := if c = 0 then (if inB x 0 m then 0 else 2) else c
theorem rangeC_bad {c x m : Int} (h : ¬ c = 0) : rangeC c x m = c := if_neg h
theorem rangeC_in {x m : Int} (h : inB x 0 m = true) : rangeC 0 x m = 0 := by unfold rangeC; rw [h]; rfl
theorem rangeC_out {x m : Int} (h : inB x 0 m = false) : rangeC 0 x m = 2 := by unfold rangeC; rw [h]; rfl
theorem checkRange_any (c x m : Int) (w : World) : Calls Tryd.prog 58 #[.int .i64 c, .int .i64 x, .int .i64 m] w fun e w' => e = .returned (.int .i64 (rangeC c x m)) ∧ w = w' := by
  by_cases hc : c = 0
  · subst hc
    cases hx : inB x 0 m with
    | true =>
      have HR := Lib.hid (rangeC_in hx)
      go_enter Tryd.func58, Tryd.ntmps58
      go_wp2_with (go_at_call 64; refine (isWithin_any _ _ _ _).mono ?_; rintro e w' ⟨rfl, rfl⟩)
      go_ret
      exact ⟨ret_int HR.out.symm, rfl⟩
    | false =>
      have HR := Lib.hid (rangeC_out hx)
      go_enter Tryd.func58, Tryd.ntmps58
      go_wp2_with (go_at_call 64; refine (isWithin_any _ _ _ _).mono ?_; rintro e w' ⟨rfl, rfl⟩)
      go_ret
      exact ⟨ret_int HR.out.symm, rfl⟩
  · have HR := Lib.hid (rangeC_bad (x := x) (m := m) hc)
    have hcb : (c == 0) = false := by simp [hc]
    go_enter Tryd.func58, Tryd.ntmps58
    go_wp2_with (go_at_call 64; refine (isWithin_any _ _ _ _).mono ?_; rintro e w' ⟨rfl, rfl⟩)
    go_ret
    exact ⟨ret_int HR.out.symm, rfl⟩


def fromJ (p : Nat → Bool) (j i : Nat) : Bool := p i && decide (j ≤ i)
theorem fromJ_zero (p : Nat → Bool) (n : Nat) : setN p n = setN (fromJ p 0) n := setN_congr fun i _ => by simp [fromJ]
theorem fromJ_step {p : Nat → Bool} {n j : Nat} (hn : n ≤ 40) (hx : setN (fromJ p j) n ≠ 0) :
    Lib.ctz 64 (setN (fromJ p j) n) < n ∧ j ≤ Lib.ctz 64 (setN (fromJ p j) n) ∧ filtN p (Lib.ctz 64 (setN (fromJ p j) n) + 1) = filtN p j ++ [((Lib.ctz 64 (setN (fromJ p j) n) : Nat) : Int)] ∧ setN (fromJ p j) n &&& (2 ^ 64 - 1 - 2 ^ Lib.ctz 64 (setN (fromJ p j) n)) = setN (fromJ p (Lib.ctz 64 (setN (fromJ p j) n) + 1)) n := by
  obtain ⟨h1, h2, h3⟩ := ctz_first hn hx
  generalize Lib.ctz 64 (setN (fromJ p j) n) = c at h1 h2 h3
  have hp : p c = true ∧ j ≤ c := by simpa [fromJ] using h2
  refine ⟨h1, hp.2, ?_, ?_⟩
  · rw [filtN_yes hp.1, filtN_skip hp.2 fun i h4 h5 => ?_]
    have := h3 i h5
    simp [fromJ, h4] at this
    exact this
  · rw [setN_without _ n c _ (not_pow (by omega)) (by omega)]
    refine setN_congr fun i hi => ?_
    rcases Nat.lt_trichotomy i c with h | h | h
    · rw [h3 i h]
      have : ¬ c + 1 ≤ i := by omega
      simp [fromJ, this]
    · subst h
      have : ¬ i + 1 ≤ i := by omega
      simp [fromJ]
    · have a1 : j ≤ i := by omega
      have a2 : c + 1 ≤ i := by omega
      have a3 : ¬ i = c := by omega
      simp [fromJ, a1, a2, a3]
theorem fromJ_end {p : Nat → Bool} {n j : Nat} (hj : j ≤ n) (hx : setN (fromJ p j) n = 0) : filtN p n = filtN p j :=
  filtN_skip hj fun i h1 h2 => by
    have := setN_zero.1 hx i h2
    simpa [fromJ, h1] using this

set_option maxRecDepth 100000 in
set_option maxHeartbeats 8000000 in
theorem numbers_any (p : Nat → Bool) (n : Nat) (w : World) (hn : n ≤ 40) (hT : BitTab w) :
    Calls Tryd.prog 60 #[.int .u64 ((setN p n : Nat) : Int)] w fun e w' => Below w.heap.size w w' ∧ ∃ ao cap, e = .returned (.slice ao (filtN p n).length cap) ∧ w'.ownsRow w.heap.size 2 1 (.slice ao (filtN p n).length cap) (filtN p n).length ((filtN p n).map (Value.int .i64)) := by
  have HT : Hid (∀ W, Below w.heap.size w W → BitTab W) := fun W hB => hT.below hB
  have HI : Hid (∃ i0 : TypeInfo, Tryd.prog.info? 2 = some i0 ∧ i0.zero = some (.int .i64 0) ∧ i0.size = 1 ∧ i0.bytes = 8) := info_parts info2
  clear hT
  have HZ := Lib.hid (fromJ_zero p n)
  rw [HZ.out]
  go_enter Tryd.func60, Tryd.ntmps60
  go_wp2_with fail
  go_loopw [0, 3] (fun sv vo wr => ∃ (j c cap : Nat) (ao : Option Addr) (l : List Int), j ≤ n ∧ c ≤ j ∧ vo = .slice ao c cap ∧ sv = .int .u64 ((setN (fromJ p j) n : Nat) : Int) ∧ Hid (Below w.heap.size w wr) ∧ Hid (l = filtN p j) ∧ Hid (l.length = c) ∧ Hid (wr.ownsRow w.heap.size 2 1 (.slice ao c cap) c (l.map (Value.int .i64)))) (fun sv _ _ => (intOf sv).toNat)
  case atStart => exact ⟨0, 0, 0, none, [], by omega, by omega, rfl, rfl, Below.refl _ _, rfl, rfl, World.ownsRow_nil _ _ _ _⟩
  case round =>
    obtain ⟨j, c, cap, ao, l, hj, hcj, rfl, rfl, HBEL, HL, HLEN, HOWN⟩ := hrel
    have hx40 := setN_lt64 (fromJ p j) hn
    by_cases hx : setN (fromJ p j) n = 0
    · have HE := Lib.hid (fromJ_end hj hx)
      rw [hx]
      have HLE : Hid (l = filtN p n) := by unfold Hid; rw [HE.out, HL.out]
      clear hx hx40 HL HE
      go_wp2
      go_ret
      have e1 := HLE.out
      have e2 := HLEN.out
      subst e1
      rw [← e2] at HOWN ⊢
      exact ⟨HBEL.out, ao, cap, rfl, HOWN.out⟩
    · obtain ⟨h1, h2, h3, h4⟩ := fromJ_step hn hx
      have HFI := fun W hTW => first_any (setN (fromJ p j) n) (by omega) W hTW
      have HW := fun (c : Nat) (hc : c < 64) W => without_any (setN (fromJ p j) n) c (by omega) hc W
      have hne : (((setN (fromJ p j) n : Nat) : Int) != 0) = true := by simp; omega
      have hle : setN (fromJ p j) n &&& (2 ^ 64 - 1 - 2 ^ Lib.ctz 64 (setN (fromJ p j) n)) < setN (fromJ p j) n := by
        obtain ⟨b1, _, _⟩ := ctz_bit hx (by omega)
        have hle0 : setN (fromJ p j) n &&& (2 ^ 64 - 1 - 2 ^ Lib.ctz 64 (setN (fromJ p j) n)) ≤ setN (fromJ p j) n := Nat.and_le_left
        rcases Nat.lt_or_eq_of_le hle0 with h | h
        · exact h
        · exfalso
          have hb := congrArg (fun x => x.testBit (Lib.ctz 64 (setN (fromJ p j) n))) h
          simp only [Nat.testBit_and, b1, not_pow (show Lib.ctz 64 (setN (fromJ p j) n) < 64 by omega)] at hb
          simp at hb
      rw [h4] at hle
      generalize Lib.ctz 64 (setN (fromJ p j) n) = d at h1 h2 h3 h4 HFI hle
      have HW := Lib.hid (HW d (by omega))
      rw [h4] at HW
      have HFI := Lib.hid HFI
      have HN := Lib.hid h3
      have HLT : Hid (setN (fromJ p (d + 1)) n < setN (fromJ p j) n) := hle
      generalize setN (fromJ p j) n = x at hne HW HFI hx40 HLT
      generalize hy : setN (fromJ p (d + 1)) n = y at HW HLT
      have HY := Lib.hid hy
      have hws : w.heap.size ≤ wr.heap.size := HBEL.out.size
      have HGE : Hid (∀ q, (Value.slice ao c cap).ownBlock = some q → w.heap.size ≤ q) := fun q hq => own_low_block HOWN.out hq
      clear h3 h4 hle hy hx
      go_wp2_with (first | (go_at_call 48; refine (HFI.out _ (HT.out _ (by first | exact HBEL.out | (apply Hid.out; assumption)))).mono ?_; rintro e w6 ⟨rfl, rfl⟩) | (at_builtin; refine wpList_append_lies _ rfl _ _ 36 rfl w.heap.size 2 HI.out.choose (.int .i64 0) 1 8 Tryd.underlying36 HI.out.choose_spec.1 HI.out.choose_spec.2.1 HI.out.choose_spec.2.2.1 HI.out.choose_spec.2.2.2 rfl (by decide) (.slice ao c cap) c (l.map (Value.int .i64)) rfl (HOWN.out.alloc _) ⟨wr.heap.size, 0, none⟩ 1 1 [.int .i64 (d : Int)] rfl rfl (news_oneI wr _ _) (by intro u hu; simp at hu; subst hu; rfl) (by omega) (by unfold maxLen; omega) (by omega) (by simp; omega) (wr.heap.size + 1) (by simp) ?_))
      intro g' cap' w3 hown1 hgrow hat hlt2
      have B5 : Hid (Below w.heap.size w w3) := (HBEL.out.alloc hws _).grown hgrow (by simp; omega) HGE.out
      have O1 : Hid (w3.ownsRow w.heap.size 2 1 (.slice (some ⟨g', 0, none⟩) (c + 1) cap') (c + 1) ((l ++ [(d : Int)]).map (Value.int .i64))) := by
        unfold Hid; rw [List.map_append]; exact hown1
      clear hown1 hgrow hat hlt2
      go_wp2_with (first | (go_at_call 48; refine (HFI.out _ (HT.out _ B5.out)).mono ?_; rintro e w6 ⟨rfl, rfl⟩) | (go_at_call 59; refine (HW.out _).mono ?_; rintro e w7 ⟨rfl, rfl⟩))
      go_roundw
      case rel => exact ⟨d + 1, c + 1, cap', _, l ++ [(d : Int)], by omega, by omega, rfl, by rw [HY.out], B5.out, by unfold Hid; rw [HN.out, ← HL.out], by unfold Hid; rw [List.length_append, HLEN.out]; rfl, O1.out⟩
      case measure => have := HLT.out; simp [intOf]; omega
end Go.Proofs.YtpkkibnpjhlfmaaDoor
