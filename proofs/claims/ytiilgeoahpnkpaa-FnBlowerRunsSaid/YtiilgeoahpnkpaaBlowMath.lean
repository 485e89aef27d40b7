/-
  Blowers: valid ones, what a set of them has together, the bank of all sets. Nothing of the program stands here.
-/
import Derived.Test.YtiilgeoahpnkpaaRowAt
import Derived.Test.YtiilgeoahpnkpaaBlowerRec
namespace Go.Proofs.Ytiilgeoahpnkpaa
open Go.RowKit

def blB (t : TBlower) : Bool := inB t.1 1 1000 && (inB t.2.1 0 10000 && inB t.2.2 0 10000)
def blsB (ts : List TBlower) : Bool := decide (ts.length ≤ 4) && ts.all blB
def neB (ns : List Int) : Bool := decide (ns.length ≤ 24) && ns.all (fun x => inB x 0 1000)
theorem blB_of {t : TBlower} (h : blB t = true) : (1 ≤ t.1 ∧ t.1 ≤ 1000) ∧ (0 ≤ t.2.1 ∧ t.2.1 ≤ 10000) ∧ 0 ≤ t.2.2 ∧ t.2.2 ≤ 10000 := by
  unfold blB at h
  rw [Bool.and_eq_true, Bool.and_eq_true] at h
  exact ⟨inB_of h.1, inB_of h.2.1, inB_of h.2.2⟩
theorem blsB_of {ts : List TBlower} (h : blsB ts = true) : ts.length ≤ 4 ∧ ∀ k (hk : k < ts.length), (1 ≤ ts[k].1 ∧ ts[k].1 ≤ 1000) ∧ (0 ≤ ts[k].2.1 ∧ ts[k].2.1 ≤ 10000) ∧ 0 ≤ ts[k].2.2 ∧ ts[k].2.2 ≤ 10000 := by
  unfold blsB at h
  rw [Bool.and_eq_true] at h
  exact ⟨of_decide_eq_true h.1, fun k hk => blB_of (all_at h.2 k hk)⟩
theorem blsB_many {ts : List TBlower} (h : ¬ ts.length ≤ 4) : blsB ts = false := by unfold blsB; rw [decide_eq_false h]; rfl
theorem blsB_few {ts : List TBlower} (h : ts.length ≤ 4) : blsB ts = ts.all blB := by unfold blsB; rw [decide_eq_true h]; rfl
theorem neB_of {ns : List Int} (h : neB ns = true) : ns.length ≤ 24 ∧ ∀ k (hk : k < ns.length), 0 ≤ ns[k] ∧ ns[k] ≤ 1000 := by
  unfold neB at h
  rw [Bool.and_eq_true] at h
  exact ⟨of_decide_eq_true h.1, fun k hk => inB_of (all_at (f := fun x => inB x 0 1000) h.2 k hk)⟩
theorem neB_many {ns : List Int} (h : ¬ ns.length ≤ 24) : neB ns = false := by unfold neB; rw [decide_eq_false h]; rfl
theorem neB_few {ns : List Int} (h : ns.length ≤ 24) : neB ns = ns.all (fun x => inB x 0 1000) := by unfold neB; rw [decide_eq_true h]; rfl

/-- A sum over those whose bit is set. -/
def sumS (f : Nat → Int) (s : Nat) : Nat → Int
  | 0 => 0
  | k + 1 => sumS f s k + (if s.testBit k = true then f k else 0)
theorem sumS_congr {f : Nat → Int} {s s' : Nat} : ∀ {k : Nat}, (∀ i, i < k → s.testBit i = s'.testBit i) → sumS f s k = sumS f s' k
  | 0, _ => rfl
  | k + 1, h => by rw [sumS, sumS, sumS_congr fun i hi => h i (by omega), h k (by omega)]
theorem sumS_bd {f : Nat → Int} {s : Nat} {M : Int} (hM : 0 ≤ M) : ∀ {k : Nat}, (∀ i, i < k → 0 ≤ f i ∧ f i ≤ M) → 0 ≤ sumS f s k ∧ sumS f s k ≤ k * M
  | 0, _ => by simp [sumS]
  | k + 1, h => by
    have ih := sumS_bd (s := s) hM (k := k) fun i hi => h i (by omega)
    have h1 := h k (by omega)
    have e : ((k + 1 : Nat) : Int) * M = (k : Int) * M + M := by rw [Int.natCast_add, Int.add_mul]; simp
    rw [sumS, e]
    split <;> omega
def pwN (ts : List TBlower) (k : Nat) : Int := (ts.getD k (0, 0, 0)).1
def hoN (ts : List TBlower) (k : Nat) : Int := (ts.getD k (0, 0, 0)).2.1
def stN (ts : List TBlower) (k : Nat) : Int := (ts.getD k (0, 0, 0)).2.2
theorem getD_atB {ts : List TBlower} {k : Nat} (h : k < ts.length) : ts.getD k (0, 0, 0) = ts[k] := by rw [List.getD_eq_getElem?_getD, List.getElem?_eq_getElem h, Option.getD_some]
theorem pwN_at {ts : List TBlower} {k : Nat} (h : k < ts.length) : pwN ts k = ts[k].1 := by unfold pwN; rw [getD_atB h]
theorem hoN_at {ts : List TBlower} {k : Nat} (h : k < ts.length) : hoN ts k = ts[k].2.1 := by unfold hoN; rw [getD_atB h]
theorem stN_at {ts : List TBlower} {k : Nat} (h : k < ts.length) : stN ts k = ts[k].2.2 := by unfold stN; rw [getD_atB h]
theorem sums_bd {ts : List TBlower} (h : blsB ts = true) (s : Nat) {k : Nat} (hk : k ≤ ts.length) : (0 ≤ sumS (pwN ts) s k ∧ sumS (pwN ts) s k ≤ 4000) ∧ (0 ≤ sumS (hoN ts) s k ∧ sumS (hoN ts) s k ≤ 40000) ∧ 0 ≤ sumS (stN ts) s k ∧ sumS (stN ts) s k ≤ 40000 := by
  obtain ⟨h1, h2⟩ := blsB_of h
  have a1 := sumS_bd (f := pwN ts) (s := s) (M := 1000) (by omega) (k := k) fun i hi => by rw [pwN_at (show i < ts.length by omega)]; have := h2 i (by omega); omega
  have a2 := sumS_bd (f := hoN ts) (s := s) (M := 10000) (by omega) (k := k) fun i hi => by rw [hoN_at (show i < ts.length by omega)]; have := h2 i (by omega); omega
  have a3 := sumS_bd (f := stN ts) (s := s) (M := 10000) (by omega) (k := k) fun i hi => by rw [stN_at (show i < ts.length by omega)]; have := h2 i (by omega); omega
  omega
/-- What the first k blowers of a set have together. -/
def bkA (ts : List TBlower) (k s : Nat) : TBlower := (sumS (pwN ts) s k, sumS (hoN ts) s k, sumS (stN ts) s k)
def bankL (ts : List TBlower) (k : Nat) : List TBlower := (List.range (2 ^ k)).map (bkA ts k)
def bankJ (ts : List TBlower) (k j : Nat) : List TBlower := (List.range (2 ^ k + j)).map (bkA ts (k + 1))
theorem bankL_len (ts : List TBlower) (k : Nat) : (bankL ts k).length = 2 ^ k := by simp [bankL]
theorem bankJ_len (ts : List TBlower) (k j : Nat) : (bankJ ts k j).length = 2 ^ k + j := by simp [bankJ]
theorem bankL_at (ts : List TBlower) (k s : Nat) (h : s < (bankL ts k).length) : (bankL ts k)[s] = bkA ts k s := by simp [bankL]
theorem bankL_zero (ts : List TBlower) : bankL ts 0 = [(0, 0, 0)] := rfl
theorem bkA_low (ts : List TBlower) {k s : Nat} (h : s < 2 ^ k) : bkA ts (k + 1) s = bkA ts k s := by
  have hb : s.testBit k = false := Nat.testBit_lt_two_pow h
  unfold bkA
  simp only [sumS, hb, Bool.false_eq_true, if_false, Int.add_zero]
theorem bkA_high (ts : List TBlower) {k j : Nat} (hj : j < 2 ^ k) (hk : k < ts.length) : bkA ts (k + 1) (2 ^ k + j) = ((bkA ts k j).1 + ts[k].1, (bkA ts k j).2.1 + ts[k].2.1, (bkA ts k j).2.2 + ts[k].2.2) := by
  have hb : (2 ^ k + j).testBit k = true := by rw [Nat.testBit_two_pow_add_eq, Nat.testBit_lt_two_pow hj]; rfl
  have hs : ∀ f, sumS f (2 ^ k + j) k = sumS f j k := fun f => sumS_congr fun i hi => Nat.testBit_two_pow_add_gt hi j
  unfold bkA
  simp only [sumS, hb, if_true, hs, pwN_at hk, hoN_at hk, stN_at hk]
theorem bankJ_zero (ts : List TBlower) (k : Nat) : bankJ ts k 0 = bankL ts k := by
  unfold bankJ bankL
  rw [Nat.add_zero]
  apply List.map_congr_left
  intro s hs
  exact bkA_low ts (List.mem_range.1 hs)
theorem bankJ_next (ts : List TBlower) {k j : Nat} (hj : j < 2 ^ k) (hk : k < ts.length) : bankJ ts k (j + 1) = bankJ ts k j ++ [((bkA ts k j).1 + ts[k].1, (bkA ts k j).2.1 + ts[k].2.1, (bkA ts k j).2.2 + ts[k].2.2)] := by
  unfold bankJ
  rw [← Nat.add_assoc, List.range_succ, List.map_append, List.map_singleton, bkA_high ts hj hk]
theorem bankJ_end (ts : List TBlower) (k : Nat) : bankJ ts k (2 ^ k) = bankL ts (k + 1) := by
  unfold bankJ bankL
  rw [Nat.pow_succ, Nat.mul_two]
theorem bankJ_pre (ts : List TBlower) (k j : Nat) : ∃ r, bankJ ts k j = bankL ts k ++ r := by
  rw [← bankJ_zero]
  unfold bankJ
  exact ⟨((List.range j).map (2 ^ k + ·)).map (bkA ts (k + 1)), by rw [Nat.add_zero (2 ^ k), List.range_add, List.map_append]⟩
theorem pow_le16 {k : Nat} (h : k ≤ 4) : 2 ^ k ≤ 16 := by
  match k, h with
  | 0, _ => decide
  | 1, _ => decide
  | 2, _ => decide
  | 3, _ => decide
  | 4, _ => decide
/-- A number is a set of blowers. -/
def setB (n : Nat) (s : Int) : Bool := inB s 0 (((2 ^ n : Nat) : Int) - 1)
/-- A set without another one. -/
def lessS (s b : Nat) : Nat := s &&& (15 ^^^ b)
theorem lessS_bit {s b i : Nat} (hi : i < 4) : (lessS s b).testBit i = (s.testBit i && !b.testBit i) := by
  have h15 : (15 : Nat).testBit i = true := by
    match i, hi with
    | 0, _ => rfl
    | 1, _ => rfl
    | 2, _ => rfl
    | 3, _ => rfl
  unfold lessS
  rw [Nat.testBit_and, Nat.testBit_xor, h15]
  simp
theorem lessS_le (s b : Nat) : lessS s b ≤ s := Nat.and_le_left
/-- What an hour costs with a set behind another one. -/
def stepS (ts : List TBlower) (b s : Nat) : Int := sumS (hoN ts) s ts.length + sumS (stN ts) (lessS s b) ts.length
theorem stepS_bd {ts : List TBlower} (h : blsB ts = true) (b s : Nat) : 0 ≤ stepS ts b s ∧ stepS ts b s ≤ 80000 := by
  have h1 := sums_bd h s (Nat.le_refl _)
  have h2 := sums_bd h (lessS s b) (Nat.le_refl _)
  unfold stepS
  omega
/-- The same over the first k blowers. -/
def stepK (ts : List TBlower) (b s k : Nat) : Int := sumS (hoN ts) s k + sumS (stN ts) (lessS s b) k
theorem stepK_bd {ts : List TBlower} (h : blsB ts = true) (b s : Nat) {k : Nat} (hk : k ≤ ts.length) : 0 ≤ stepK ts b s k ∧ stepK ts b s k ≤ 80000 := by
  have h1 := sums_bd h s hk
  have h2 := sums_bd h (lessS s b) hk
  unfold stepK
  omega
theorem stepK_no {ts : List TBlower} {b s k : Nat} (hk : k < 4) (h : s.testBit k = false) : stepK ts b s (k + 1) = stepK ts b s k := by
  have h2 := lessS_bit (s := s) (b := b) hk
  rw [h] at h2
  unfold stepK
  simp only [sumS, h, h2, Bool.false_and, Bool.false_eq_true, if_false, Int.add_zero]
theorem stepK_run {ts : List TBlower} {b s k : Nat} (hk : k < 4) (hl : k < ts.length) (h : s.testBit k = true) (hb : b.testBit k = true) : stepK ts b s (k + 1) = stepK ts b s k + ts[k].2.1 := by
  have h2 := lessS_bit (s := s) (b := b) hk
  rw [h, hb] at h2
  unfold stepK
  simp only [sumS, h, h2, Bool.not_true, Bool.and_false, Bool.false_eq_true, if_false, if_true, Int.add_zero, hoN_at hl]
  omega
theorem stepK_start {ts : List TBlower} {b s k : Nat} (hk : k < 4) (hl : k < ts.length) (h : s.testBit k = true) (hb : b.testBit k = false) : stepK ts b s (k + 1) = stepK ts b s k + ts[k].2.1 + ts[k].2.2 := by
  have h2 := lessS_bit (s := s) (b := b) hk
  rw [h, hb] at h2
  unfold stepK
  simp only [sumS, h, h2, Bool.not_false, Bool.and_true, if_true, hoN_at hl, stN_at hl]
  omega
theorem sumS_no {f : Nat → Int} {s k : Nat} (h : s.testBit k = false) : sumS f s (k + 1) = sumS f s k := by simp only [sumS, h, Bool.false_eq_true, if_false, Int.add_zero]
theorem sumS_yes {f : Nat → Int} {s k : Nat} (h : s.testBit k = true) : sumS f s (k + 1) = sumS f s k + f k := by simp only [sumS, h, if_true]
/-- What ran in the hour before the hour k. -/
def befN (l : List Int) : Nat → Nat
  | 0 => 0
  | k + 1 => (l.getD k 0).toNat
/-- What the first k hours cost. -/
def costP (ts : List TBlower) (l : List Int) : Nat → Int
  | 0 => 0
  | k + 1 => costP ts l k + stepS ts (befN l k) (l.getD k 0).toNat
theorem costP_bd {ts : List TBlower} (h : blsB ts = true) (l : List Int) : ∀ k : Nat, 0 ≤ costP ts l k ∧ costP ts l k ≤ 80000 * k
  | 0 => by simp [costP]
  | k + 1 => by
    have ih := costP_bd h l k
    have := stepS_bd h (befN l k) (l.getD k 0).toNat
    rw [costP]
    omega
/-- Sets of a day. -/
def dayB (n : Nat) (l : List Int) : Bool := decide (l.length ≤ 24) && l.all (setB n)
theorem dayB_of {n : Nat} {l : List Int} (h : dayB n l = true) : l.length ≤ 24 ∧ ∀ k (hk : k < l.length), ∃ s : Nat, l[k] = (s : Int) ∧ s < 2 ^ n := by
  unfold dayB at h
  rw [Bool.and_eq_true] at h
  refine ⟨of_decide_eq_true h.1, fun k hk => ?_⟩
  have := inB_of (all_at (f := setB n) h.2 k hk)
  exact ⟨l[k].toNat, by omega, by omega⟩
theorem dayB_many {n : Nat} {l : List Int} (h : ¬ l.length ≤ 24) : dayB n l = false := by unfold dayB; rw [decide_eq_false h]; rfl
theorem dayB_few {n : Nat} {l : List Int} (h : l.length ≤ 24) : dayB n l = l.all (setB n) := by unfold dayB; rw [decide_eq_true h]; rfl
theorem getD_atI {l : List Int} {k : Nat} (h : k < l.length) : l.getD k 0 = l[k] := by rw [List.getD_eq_getElem?_getD, List.getElem?_eq_getElem h, Option.getD_some]
theorem befN_lt {n : Nat} {l : List Int} (h : dayB n l = true) {k : Nat} (hk : k ≤ l.length) : befN l k < 2 ^ n := by
  cases k with
  | zero => exact Nat.two_pow_pos n
  | succ k =>
    obtain ⟨s, e, hs⟩ := (dayB_of h).2 k (by omega)
    rw [befN, getD_atI (show k < l.length by omega), e]
    exact hs
def bcode (ts : List TBlower) : Int := if blsB ts = true then 0 else 1
def ncode (ts : List TBlower) (ns : List Int) : Int := if neB ns = true then bcode ts else 1
/-- The code of sets in hours. -/
def dcode (ts : List TBlower) (l : List Int) : Int := if blsB ts = true then (if dayB ts.length l = true then 0 else 2) else 1
def powOf (ts : List TBlower) (f : Int) : Int × Int := if blsB ts = true then (if setB ts.length f = true then (sumS (pwN ts) f.toNat ts.length, 0) else (0, 2)) else (0, 1)
def costOf (ts : List TBlower) (l : List Int) : Int × Int := if dcode ts l = 0 then (costP ts l l.length, 0) else (0, dcode ts l)
/-- The code of sets that are held against needs. -/
def mcode (ts : List TBlower) (ns l : List Int) : Int := if blsB ts = true ∧ neB ns = true then (if l.length = ns.length then dcode ts l else 2) else 1
def meetB (ts : List TBlower) (ns l : List Int) : Bool := (List.range l.length).all fun k => decide (ns.getD k 0 ≤ sumS (pwN ts) (l.getD k 0).toNat ts.length)
def meetOf (ts : List TBlower) (ns l : List Int) : Bool × Int := if mcode ts ns l = 0 then (meetB ts ns l, 0) else (false, mcode ts ns l)
theorem dcode_of {ts : List TBlower} {l : List Int} (h : dcode ts l = 0) : blsB ts = true ∧ dayB ts.length l = true := by
  unfold dcode at h
  split at h
  · split at h
    · exact ⟨by assumption, by assumption⟩
    · exact absurd h (by decide)
  · exact absurd h (by decide)
theorem mcode_of {ts : List TBlower} {ns l : List Int} (h : mcode ts ns l = 0) : blsB ts = true ∧ neB ns = true ∧ l.length = ns.length ∧ dayB ts.length l = true := by
  unfold mcode at h
  split at h
  · rename_i h1
    split at h
    · rename_i h2
      exact ⟨h1.1, h1.2, h2, (dcode_of h).2⟩
    · exact absurd h (by decide)
  · exact absurd h (by decide)
end Go.Proofs.Ytiilgeoahpnkpaa
