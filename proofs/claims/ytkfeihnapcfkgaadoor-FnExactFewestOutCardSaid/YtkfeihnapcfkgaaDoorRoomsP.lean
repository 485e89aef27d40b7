/-
  Guests that have gone: the program's gone, has, changed, GoOne.
-/
import Derived.Test.YtkfeihnapcfkgaaDoorRoomsO
namespace Go.Proofs.YtkfeihnapcfkgaaDoor
open Go.RowKit

theorem gone_any (t1 t2 : Int) (w : World) : Calls Tryd.prog 57 #[.agg #[.int .i64 t1, .int .i64 t2]] w fun e w' => e = .returned (.agg #[.int .i64 t2, .int .i64 t2]) ∧ Below w.heap.size w w' := by
  go_enter Tryd.func57, Tryd.ntmps57
  go_wp2
  exact bodyPost_ret (v := .agg #[.int .i64 t2, .int .i64 t2]) (by simp [results, Tryd.results57, go_sem]) rfl ⟨rfl, (by repeat (first | exact Below.refl _ _ | refine Below.alloc ?_ (by simp; try omega) _ | refine Below.setCell ?_ (by simp; try omega) _))⟩
theorem hasB (x k : Nat) : x / 2 ^ k &&& 1 = if x.testBit k then 1 else 0 := by
  rw [Nat.and_one_is_mod, Nat.testBit_eq_decide_div_mod_eq]
  have := Nat.mod_two_eq_zero_or_one (x / 2 ^ k)
  split <;> simp_all
set_option maxRecDepth 100000 in
theorem has_any (x k : Nat) (w : World) (hx : x < 1099511627776) (hk : k < 40) : Calls Tryd.prog 54 #[.int .u64 (x : Int), .int .i64 (k : Int)] w fun e w' => e = .returned (.bool (x.testBit k)) ∧ w = w' := by
  have h1 : x / 2 ^ k ≤ x := Nat.div_le_self _ _
  have h := bits_and_u64_nat (x / 2 ^ k) 1 (by omega) (by omega)
  rw [hasB] at h
  have hd : Hid ((x : Int) / 2 ^ k = ((x / 2 ^ k : Nat) : Int)) := by unfold Hid; rw [Int.natCast_ediv]; simp
  cases hb : x.testBit k with
  | true =>
    rw [hb, if_pos rfl] at h
    have H := Lib.hid h
    clear h h1 hx
    go_enter Tryd.func54, Tryd.ntmps54
    go_wp2
    go_ret
    exact ⟨ret_bool (by rw [hd.out]; exact congrArg (fun z : Int => z == 1) H.out), rfl⟩
  | false =>
    rw [hb, if_neg (by decide)] at h
    have H := Lib.hid h
    clear h h1 hx
    go_enter Tryd.func54, Tryd.ntmps54
    go_wp2
    go_ret
    exact ⟨ret_bool (by rw [hd.out]; exact congrArg (fun z : Int => z == 1) H.out), rfl⟩

/-- The guests after those at some places have been changed. -/
def chM (f : TGuest → TGuest) : List Nat → List TGuest → List TGuest
  | [], ts => ts
  | k :: ks, ts => chM f ks (ts.set k (f (ts.getD k (0, 0))))
def filtK (p : Nat → Bool) (m : Nat) : List Nat := (List.range m).filter p
theorem filtN_K (p : Nat → Bool) : ∀ m, filtN p m = (filtK p m).map (fun (k : Nat) => (k : Int))
  | 0 => rfl
  | m + 1 => by
    have ih := filtN_K p m
    unfold filtK at *
    rw [List.range_succ, List.filter_append, List.map_append]
    cases h : p m with
    | true => rw [filtN_yes h, ih]; simp [h]
    | false => rw [filtN_no h, ih]; simp [h]
theorem filtK_lt {p : Nat → Bool} {m k : Nat} (h : k ∈ filtK p m) : k < m ∧ p k = true := by
  unfold filtK at h
  rw [List.mem_filter, List.mem_range] at h
  exact h
theorem chM_len (f : TGuest → TGuest) : ∀ ks ts, (chM f ks ts).length = ts.length
  | [], _ => rfl
  | k :: ks, ts => by rw [chM, chM_len f ks]; simp
theorem chM_take (f : TGuest → TGuest) : ∀ (ks : List Nat) (ts : List TGuest) (j : Nat) (h : j < ks.length), chM f (ks.take (j + 1)) ts = (chM f (ks.take j) ts).set ks[j] (f ((chM f (ks.take j) ts).getD ks[j] (0, 0)))
  | [], _, _, h => by simp at h
  | k :: ks, ts, 0, _ => by simp [chM]
  | k :: ks, ts, j + 1, h => by
    rw [List.take_succ_cons, chM, List.take_succ_cons, chM]
    simp only [List.getElem_cons_succ]
    exact chM_take f ks _ j (by simpa using h)
def chP (f : TGuest → TGuest) (p : Nat → Bool) (ts : List TGuest) : List TGuest := chM f (filtK p ts.length) ts
theorem chP_len (f : TGuest → TGuest) (p : Nat → Bool) (ts : List TGuest) : (chP f p ts).length = ts.length := chM_len f _ ts
theorem chM_get (f : TGuest → TGuest) : ∀ (ks : List Nat) (ts : List TGuest), ks.Nodup → ∀ i (h : i < ts.length), (chM f ks ts)[i]? = some (if i ∈ ks then f ts[i] else ts[i])
  | [], ts, _, i, h => by simp [chM, h]
  | k :: ks, ts, hn, i, h => by
    rw [chM]
    have hn' := List.nodup_cons.1 hn
    have h2 : i < (ts.set k (f (ts.getD k (0, 0)))).length := by simpa using h
    rw [chM_get f ks _ hn'.2 i h2]
    by_cases e : k = i
    · subst e
      rw [if_neg hn'.1, if_pos (by simp)]
      rw [List.getElem_set_self, List.getD_eq_getElem?_getD, List.getElem?_eq_getElem h, Option.getD_some]
    · rw [List.getElem_set_ne e]
      have e2 : ¬ i = k := fun h => e h.symm
      simp [e2]
theorem chP_get (f : TGuest → TGuest) (p : Nat → Bool) (ts : List TGuest) (i : Nat) (h : i < ts.length) : (chP f p ts)[i]? = some (if p i = true then f ts[i] else ts[i]) := by
  unfold chP
  rw [chM_get f _ ts (by unfold filtK; exact List.nodup_range.sublist List.filter_sublist) i h]
  congr 2
  unfold filtK
  simp [List.mem_filter, h]
end Go.Proofs.YtkfeihnapcfkgaaDoor
