/-
  Orders by ascending numbers, built by insertion: plain facts on lists.
-/
import Derived.Test.YtdllfkgljnapoaaBase
import Derived.Sort.Defs
namespace Go.Proofs.Ytdllfkgljnapoaa
open Go.RowKit Go.Sort

/-- Where x goes among the first k of l: behind the last one whose number is not greater. -/
def pos (K : Int → Int) (l : List Int) (x : Int) : Nat → Nat
  | 0 => 0
  | k + 1 => if K x < K (l.getD k 0) then pos K l x k else k + 1
def ins (K : Int → Int) (l : List Int) (x : Int) : List Int := l.take (pos K l x l.length) ++ x :: l.drop (pos K l x l.length)
def srt (K : Int → Int) : Nat → List Int
  | 0 => []
  | i + 1 => ins K (srt K i) (i : Int)
theorem pos_le (K : Int → Int) (l : List Int) (x : Int) (k : Nat) : pos K l x k ≤ k := by
  induction k with
  | zero => exact Nat.le_refl _
  | succ k ih => unfold pos; split <;> omega
theorem pos_less {K : Int → Int} {l : List Int} {x : Int} {k : Nat} (hk : k < l.length) (h : K x < K l[k]) : pos K l x (k + 1) = pos K l x k := by
  rw [pos, List.getD_eq_getElem?_getD, List.getElem?_eq_getElem hk, Option.getD_some, if_pos h]
theorem pos_stop {K : Int → Int} {l : List Int} {x : Int} {k : Nat} (hk : k < l.length) (h : ¬ K x < K l[k]) : pos K l x (k + 1) = k + 1 := by
  rw [pos, List.getD_eq_getElem?_getD, List.getElem?_eq_getElem hk, Option.getD_some, if_neg h]
theorem ins_len (K : Int → Int) (l : List Int) (x : Int) : (ins K l x).length = l.length + 1 := by
  have := pos_le K l x l.length
  unfold ins
  simp
  omega
theorem srt_len (K : Int → Int) (i : Nat) : (srt K i).length = i := by
  induction i with
  | zero => rfl
  | succ i ih => unfold srt; rw [ins_len, ih]
theorem srt_succ {K : Int → Int} {i p : Nat} (h : pos K (srt K i) i i = p) : srt K (i + 1) = (srt K i).take p ++ (i : Int) :: (srt K i).drop p := by
  rw [srt, ins, srt_len, h]
theorem srt_mem (K : Int → Int) (i : Nat) : ∀ x ∈ srt K i, 0 ≤ x ∧ x < (i : Int) := by
  induction i with
  | zero => intro x hx; simp [srt] at hx
  | succ i ih =>
    intro x hx
    rw [srt, ins] at hx
    rcases List.mem_append.1 hx with h | h
    · have := ih x (List.mem_of_mem_take h); omega
    · rcases List.mem_cons.1 h with h | h
      · omega
      · have := ih x (List.mem_of_mem_drop h); omega
theorem srt_at (K : Int → Int) (i k : Nat) (h : k < (srt K i).length) : ∃ m : Nat, (srt K i)[k] = (m : Int) ∧ m < i := by
  have := srt_mem K i _ (List.getElem_mem h)
  exact ⟨((srt K i)[k]).toNat, by omega, by omega⟩

/-- The numbers from a to n - 1. -/
def up (a n : Nat) : List Int := (List.range' a (n - a)).map fun k : Nat => (k : Int)
theorem up_len (a n : Nat) : (up a n).length = n - a := by simp [up]
theorem up_cons {a n : Nat} (h : a < n) : up a n = (a : Int) :: up (a + 1) n := by
  unfold up
  obtain ⟨d, hd⟩ : ∃ d, n - a = d + 1 := ⟨n - a - 1, by omega⟩
  rw [hd, show n - (a + 1) = d by omega, List.range'_succ, List.map_cons]
theorem up_end (n : Nat) : up n n = [] := by simp [up]
/-- The row while the element i is being carried to the place j. -/
def rowP (K : Int → Int) (n i j : Nat) : List Int := (srt K i).take j ++ (i : Int) :: ((srt K i).drop j ++ up (i + 1) n)
/-- The row when the first i are in order. -/
def rowS (K : Int → Int) (n i : Nat) : List Int := srt K i ++ up i n
theorem rowS_zero (K : Int → Int) (n : Nat) : rowS K n 0 = up 0 n := by simp [rowS, srt]
theorem rowS_one (K : Int → Int) (n : Nat) (h : 0 < n) : rowS K n 1 = up 0 n := by
  rw [up_cons h]
  simp [rowS, srt, ins]
theorem rowS_end (K : Int → Int) (n : Nat) : rowS K n n = srt K n := by simp [rowS, up_end]
theorem rowP_start (K : Int → Int) (n i : Nat) (h : i < n) : rowP K n i i = rowS K n i := by
  unfold rowP rowS
  rw [up_cons h, List.take_of_length_le (by rw [srt_len]; exact Nat.le_refl _), List.drop_of_length_le (by rw [srt_len]; exact Nat.le_refl _)]
  rfl
theorem rowP_end {K : Int → Int} {n i p : Nat} (h : pos K (srt K i) i i = p) : rowP K n i p = rowS K n (i + 1) := by
  unfold rowP rowS
  rw [srt_succ h]
  simp
theorem rowP_len {K : Int → Int} {n i j : Nat} (hi : i < n) (hj : j ≤ i) : (rowP K n i j).length = n := by
  unfold rowP
  simp [srt_len, up_len]
  omega
theorem rowP_at {K : Int → Int} {n i j : Nat} (hj : j ≤ i) : (rowP K n i j)[j]? = some (i : Int) := by
  unfold rowP
  have e : ((srt K i).take j).length = j := by rw [List.length_take, srt_len]; omega
  rw [List.getElem?_append_right (by omega), e]
  simp
theorem rowP_left {K : Int → Int} {n i j q : Nat} (hj : j ≤ i) (hq : q < j) : (rowP K n i j)[q]? = (srt K i)[q]? := by
  unfold rowP
  have e : ((srt K i).take j).length = j := by rw [List.length_take, srt_len]; omega
  rw [List.getElem?_append_left (by omega), List.getElem?_take_of_lt hq]
theorem rowP_swap {K : Int → Int} {n i j : Nat} (hj : j + 1 ≤ i) (h : j < (srt K i).length) : ((rowP K n i (j + 1)).set (j + 1) (srt K i)[j]).set j (i : Int) = rowP K n i j := by
  unfold rowP
  have e : ((srt K i).take (j + 1)).length = j + 1 := by rw [List.length_take, srt_len]; omega
  have e2 : ((srt K i).take j).length = j := by rw [List.length_take, srt_len]; omega
  rw [List.set_append_right _ _ (by omega), e, Nat.sub_self, List.set_cons_zero, List.set_append_left _ _ (by omega), List.take_succ_eq_append_getElem h, List.set_append_right _ _ (by omega), e2, Nat.sub_self, List.set_cons_zero, List.append_assoc]
  congr 1
  rw [List.drop_eq_getElem_cons h]
  rfl

/-- The library's insertion sort over indexes is this insertion. -/
theorem inner_row {n : Nat} [Inhabited (Fin n)] {K : Int → Int} {lt : Fin n → Fin n → Bool} (hlt : ∀ x y : Fin n, lt x y = decide (K ((x : Nat) : Int) < K ((y : Nat) : Int))) (i : Nat) (hi : i < n) :
    ∀ (j : Nat) (d : Array (Fin n)), j ≤ i → pos K (srt K i) i i = pos K (srt K i) i j → d.toList.map (fun x : Fin n => ((x : Nat) : Int)) = rowP K n i j → ((insInner lt 0 j d).toList.map fun x : Fin n => ((x : Nat) : Int)) = rowS K n (i + 1) := by
  intro j
  induction j with
  | zero =>
    intro d _ hp hd
    rw [insInner, hd]
    exact rowP_end hp
  | succ j ih =>
    intro d hj hp hd
    have hs : d.size = n := by
      have := congrArg List.length hd
      rw [rowP_len hi hj] at this
      simpa using this
    have hjl : j < (srt K i).length := by rw [srt_len]; omega
    have a1 : ∀ q (hq : q < d.size), (rowP K n i (j + 1))[q]? = some ((d[q] : Nat) : Int) := fun q hq => by
      rw [← hd, List.getElem?_map, Array.getElem?_toList, Array.getElem?_eq_getElem hq]; rfl
    have h1 : d[j + 1]! = d[j + 1]'(by omega) := getElem!_pos _ _ (by omega)
    have h0 : d[j]! = d[j]'(by omega) := getElem!_pos _ _ (by omega)
    have v1 : ((d[j + 1]'(by omega) : Nat) : Int) = (i : Int) := by
      have := (a1 (j + 1) (by omega)).symm.trans (rowP_at hj)
      exact Option.some.inj this
    have v0 : ((d[j]'(by omega) : Nat) : Int) = (srt K i)[j] := by
      have := (a1 j (by omega)).symm.trans (rowP_left hj (Nat.lt_succ_self j))
      rw [List.getElem?_eq_getElem hjl] at this
      exact Option.some.inj this
    rw [insInner, h1, h0, hlt, v1, v0]
    by_cases hk : K (i : Int) < K (srt K i)[j]
    · rw [if_pos (by simp [hk])]
      refine ih _ (by omega) (hp.trans (pos_less hjl hk)) ?_
      rw [swp, h1, h0, Array.toList_setIfInBounds, Array.toList_setIfInBounds, List.map_set, List.map_set, hd, v0, v1]
      exact rowP_swap hj hjl
    · rw [if_neg (by simp [hk]), hd]
      exact rowP_end (hp.trans (pos_stop hjl hk))
theorem outer_row {n : Nat} [Inhabited (Fin n)] {K : Int → Int} {lt : Fin n → Fin n → Bool} (hlt : ∀ x y : Fin n, lt x y = decide (K ((x : Nat) : Int) < K ((y : Nat) : Int))) (g : Nat) :
    ∀ (i : Nat) (d : Array (Fin n)), n - i = g → d.toList.map (fun x : Fin n => ((x : Nat) : Int)) = rowS K n i → i ≤ n → ((insOuter lt 0 n i d).toList.map fun x : Fin n => ((x : Nat) : Int)) = srt K n := by
  induction g with
  | zero =>
    intro i d hg hd hi
    have : i = n := by omega
    subst this
    rw [insOuter, if_neg (Nat.lt_irrefl _), hd, rowS_end]
  | succ g ih =>
    intro i d hg hd hi
    rw [insOuter, if_pos (by omega)]
    exact ih (i + 1) _ (by omega) (inner_row hlt i (by omega) i d (Nat.le_refl _) rfl (hd.trans (rowP_start K n i (by omega)).symm)) (by omega)
theorem sort_row {n : Nat} [Inhabited (Fin n)] (hn : 0 < n) {K : Int → Int} {lt : Fin n → Fin n → Bool} (hlt : ∀ x y : Fin n, lt x y = decide (K ((x : Nat) : Int) < K ((y : Nat) : Int))) (d : Array (Fin n)) (hd : d.toList.map (fun x : Fin n => ((x : Nat) : Int)) = up 0 n) :
    ((insertionSort lt d 0 n).toList.map fun x : Fin n => ((x : Nat) : Int)) = srt K n :=
  outer_row hlt _ 1 d rfl (hd.trans (rowS_one K n hn).symm) hn
/-- The number of the wish x, by a list of numbers. -/
def keyOf (ks : List Int) (x : Int) : Int := ks.getD x.toNat 0
theorem keyOf_nat (ks : List Int) (k : Nat) (h : k < ks.length) : keyOf ks (k : Int) = ks[k] := by
  unfold keyOf
  rw [Int.toNat_natCast, List.getD_eq_getElem?_getD, List.getElem?_eq_getElem h, Option.getD_some]
end Go.Proofs.Ytdllfkgljnapoaa
