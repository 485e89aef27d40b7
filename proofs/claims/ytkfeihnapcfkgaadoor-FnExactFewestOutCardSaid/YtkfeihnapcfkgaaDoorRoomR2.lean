/-
  MostGone: the model's walk and the program's.
-/
import Derived.Test.YtkfeihnapcfkgaaDoorRoomQ2
namespace Go.Proofs.YtkfeihnapcfkgaaDoor
open Go.RowKit Go.Maps Go.ChangeShapes

theorem newExchange_any (v0 v1 : Option Addr) (n c m d : Nat) (w : World) : Calls Tryd.prog 48 #[.slice v0 n c, .slice v1 m d] w fun e w' => e = .returned (.pointer (some ⟨w.heap.size + 1, 0, none⟩)) ∧ w' = (w.alloc (.map #[] 0)).alloc (.cells #[.slice v0 n c, .slice v1 m d, .map (some w.heap.size)] 97) := by
  have hmm := @run_makeMap Tryd.prog
  go_enter Tryd.func48, Tryd.ntmps48
  go_wp2
  go_ret
  exact ⟨rfl, rfl⟩
theorem exc_new (v0 v1 : Value) (w : World) : ExcAt w (w.heap.size + 1) w.heap.size v0 v1 ((w.alloc (.map #[] 0)).alloc (.cells #[v0, v1, .map (some w.heap.size)] 97)) :=
  ⟨((Below.refl _ _).alloc (Nat.le_refl _) _).alloc (by simp) _, Nat.le_refl _, Nat.lt_succ_self _, by simp [go_sem], by simp [go_sem], by simp [go_sem]⟩
theorem memo_new (M : Nat → Nat) (v0 v1 : Value) (w : World) : MemoG Tryd.prog KeyG w.heap.size 0 M ((w.alloc (.map #[] 0)).alloc (.cells #[v0, v1, .map (some w.heap.size)] 97)) :=
  (MemoG.made w Tryd.prog KeyG M).below ((Below.refl _ _).alloc (Nat.le_refl _) _)

set_option maxRecDepth 100000 in
set_option maxHeartbeats 4000000 in
theorem implMostGone_any (w : World) {b0 o0 n0 c0 : Nat} (l0 : List Int) (hn0 : Hid (l0.length = n0)) (h0 : RI w (some ⟨b0, o0, none⟩) l0) (hs0 : n0 ≤ 1048576) (_wf0 : Hid (∀ k ∈ l0, (Lit.int .i64 k).wf = true)) {b1 o1 n1 c1 : Nat} (ts1 : List TGuest) (hn1 : Hid (ts1.length = n1)) (h1 : RR 2 cGuest w (some ⟨b1, o1, none⟩) ts1) (hs1 : n1 ≤ 1048576) (_wf1 : Hid (∀ t ∈ ts1, wfGuest t)) (hT : BitTab w) :
    Calls Tryd.prog 17 #[.slice (some ⟨b0, o0, none⟩) n0 c0, .slice (some ⟨b1, o1, none⟩) n1 c1] w fun e w' => e = .returned (.tuple #[.int .i64 (mostOf l0 ts1).1, .int .i64 (mostOf l0 ts1).2]) ∧ Below w.heap.size w w' := by
  have OK := checkRooms_any b0 o0 (some ⟨b1, o1, none⟩) l0 ts1 n0 n1 c0 c1 w hn0 hn1 h0 h1 hs0 hs1
  cases hv : roB l0 ts1 with
  | false =>
    have HC : rcode l0 ts1 = 1 := by unfold rcode; rw [hv]; rfl
    rw [HC] at OK
    have HR := Lib.hid (mostOf_bad hv)
    clear hv HC h0 h1 hT
    go_enter Tryd.func17, Tryd.ntmps17
    go_wp2_with (go_at_call 43; refine OK.mono ?_; rintro e w1 ⟨rfl, hb1⟩)
    go_ret2
    exact ⟨by rw [HR.out]; rfl, hb1⟩
  | true =>
    have HC : rcode l0 ts1 = 0 := by unfold rcode; rw [hv]; rfl
    rw [HC] at OK
    have HR := Lib.hid (mostOf_good hv)
    obtain ⟨h4, h2, h3, _⟩ := roB_of hv
    rw [hn0.out] at h3
    rw [hn0.out, hn1.out] at h4
    have hle := mostS_le l0 ts1 0
    rw [hn1.out] at hle
    have MA : Hid (∀ W, Below w.heap.size w W → Calls Tryd.prog 51 #[.pointer (some ⟨W.heap.size + 1, 0, none⟩), .int .u64 0] ((W.alloc (.map #[] 0)).alloc (.cells #[.slice (some ⟨b0, o0, none⟩) n0 c0, .slice (some ⟨b1, o1, none⟩) n1 c1, .map (some W.heap.size)] 97)) fun e w' => e = .returned (.int .i64 (mostS l0 ts1 0 : Nat)) ∧ Below W.heap.size W w') := fun W hW => by
      have h := mostAfter_any W (W.heap.size + 1) W.heap.size b0 o0 b1 o1 n0 n1 c0 c1 l0 ts1 hn0 hn1 (h0.below hW) (h1.below hW) (by omega) hs0 h4.2.2 h2 h3 (hT.below hW) 8 0 _ 0 (Nat.two_pow_pos _) (Nat.le_trans (remS_le _ _) h4.2.2) (by decide) (exc_new _ _ W) (memo_new _ _ _ W)
      refine h.mono ?_
      rintro e w' ⟨he, ht, _⟩
      exact ⟨he, Below.trans (((Below.refl _ _).alloc (Nat.le_refl _) _).alloc (by simp) _) (ht.below (Nat.le_refl _) (by simp; omega))⟩
    have HNE := fun W => newExchange_any (some ⟨b0, o0, none⟩) (some ⟨b1, o1, none⟩) n0 c0 n1 c1 W
    clear hv HC h0 h1 hT h2 h3
    generalize mostS l0 ts1 0 = z at MA HR hle
    go_enter Tryd.func17, Tryd.ntmps17
    go_wp2_with (first | (go_at_call 43; refine OK.mono ?_; rintro e w1 ⟨rfl, hb1⟩) | (go_at_call 48; refine (HNE _).mono ?_; rintro e w2 ⟨rfl, rfl⟩) | (go_at_call 51; refine (MA.out _ hb1).mono ?_; rintro e w3 ⟨rfl, hb3⟩))
    go_ret2
    exact ⟨by rw [HR.out]; rfl, two_worlds hb1 hb3⟩

theorem cells_out {w : World} {g : Nat} {cur : Array Value} {e : TypeId} (h : w.heap[g]? = some (.cells cur e (0, 0))) (k : Nat) (hk : k < cur.size) : (∃ v, w.cell? ⟨g, k, none⟩ = some v) ∧ w.frozen? ⟨g, k, none⟩ = false := by
  refine ⟨⟨cur[k], ?_⟩, frozen_of_row w g _ cur e h⟩
  rw [cell_of_row w g _ cur e (0, 0) h]; exact Array.getElem?_eq_getElem _
set_option maxRecDepth 100000 in
set_option maxHeartbeats 4000000 in
theorem specMostGone_any (w : World) {b0 o0 n0 c0 : Nat} (l0 : List Int) (hn0 : Hid (l0.length = n0)) (h0 : RI w (some ⟨b0, o0, none⟩) l0) (hs0 : n0 ≤ 1048576) (_wf0 : Hid (∀ k ∈ l0, (Lit.int .i64 k).wf = true)) {b1 o1 n1 c1 : Nat} (ts1 : List TGuest) (hn1 : Hid (ts1.length = n1)) (h1 : RR 2 cGuest w (some ⟨b1, o1, none⟩) ts1) (hs1 : n1 ≤ 1048576) (_wf1 : Hid (∀ t ∈ ts1, wfGuest t)) :
    Calls Tryd.prog 39 #[.slice (some ⟨b0, o0, none⟩) n0 c0, .slice (some ⟨b1, o1, none⟩) n1 c1] w fun e w' => e = .returned (.tuple #[.int .i64 (mostOf l0 ts1).1, .int .i64 (mostOf l0 ts1).2]) ∧ Below w.heap.size w w' := by
  have OK := l10Ok_any b0 o0 (some ⟨b1, o1, none⟩) l0 ts1 n0 n1 c0 c1 w hn0 hn1 h0 h1 hs0 hs1
  cases hv : roB l0 ts1 with
  | false =>
    rw [hv] at OK
    have HR := Lib.hid (mostOf_bad hv)
    clear hv h0 h1
    go_enter Tryd.func39, Tryd.ntmps39
    go_wp2_with (go_at_call 58; refine OK.mono ?_; rintro e w1 ⟨rfl, hb1⟩)
    go_ret2
    exact ⟨by rw [HR.out]; rfl, hb1⟩
  | true =>
    rw [hv] at OK
    have HR := Lib.hid (mostOf_good hv)
    obtain ⟨h4, h2, h3, _⟩ := roB_of hv
    rw [hn0.out] at h3
    rw [hn0.out, hn1.out] at h4
    have hle := mostS_le l0 ts1 0
    rw [hn1.out] at hle
    have MA : Hid (∀ (W : World) (kb cap : Nat) (K : List Int), Below w.heap.size w W → w.heap.size ≤ kb → W.ownsRow w.heap.size 2 1 (.slice (some ⟨kb, 0, none⟩) 256 cap) 256 (K.map (Value.int .i64)) → KnownG (mostS l0 ts1) K →
        Calls Tryd.prog 74 #[.slice (some ⟨b0, o0, none⟩) n0 c0, .slice (some ⟨b1, o1, none⟩) n1 c1, .int .i64 0, .slice (some ⟨kb, 0, none⟩) 256 cap] W fun e w' => e = .returned (.int .i64 (mostS l0 ts1 0 : Nat)) ∧ Below w.heap.size W w') := fun W kb cap K hW hkb ho hK => by
      have h := l10Most_any w kb b0 o0 n0 n1 c0 cap l0 ts1 hn0 hn1 h0 hs0 h4.2.2 h2 h3 hkb 8 0 W b1 o1 c1 K (Nat.two_pow_pos _) (Nat.le_trans (remS_le _ _) h4.2.2) hW (fun W' h' => by
        rw [aftG_zero]
        rcases Nat.eq_zero_or_pos ts1.length with hz | hz
        · exact .inl (List.eq_nil_of_length_eq_zero hz)
        · obtain ⟨b2, off2, he, hb2, _⟩ := h1.addr hz
          injection he with he
          injection he with e1 e2
          exact RR_turned (h1.below hW) h' (.inl (by omega))) ho hK
      refine h.mono ?_
      rintro e w' ⟨he, ht, _⟩
      exact ⟨he, ht.below hkb hW.size⟩
    obtain ⟨i0, hi, hz0, hz1, hz2⟩ := info_parts info2
    have hmk := run_make_rowN (P := Tryd.prog) 24 2 i0 _ Tryd.underlying24 hi hz0 .i64 .i64 256 256 (Nat.le_refl _) (by rw [hz2]; omega) (by omega)
    rw [hz1] at hmk
    clear hi hz0 hz1 hz2
    have HSZ : Hid ((madeCells (Value.cells (.int .i64 0)) (256 * 1)).size = 256 * 1) := size_madeCells _ _
    generalize madeCells (Value.cells (.int .i64 0)) (256 * 1) = cur0 at hmk HSZ
    have hmk2 : ∀ W : World, (Instr.makeSlice 24 (.int .i64 256) (.int .i64 256)).run Tryd.prog W = .ok (.slice (some ⟨W.heap.size, 0, none⟩) 256 256) (W.alloc (.cells cur0 2)) := hmk
    clear hv h0 h1 h2 h3 hmk
    generalize mostS l0 ts1 0 = z at MA HR hle
    go_enter Tryd.func39, Tryd.ntmps39
    go_wp2_with (go_at_call 58; refine OK.mono ?_; rintro e w1 ⟨rfl, hb1⟩)
    have HB1 := Lib.hid hb1
    have hw1 := HB1.out.size
    clear hb1 OK hmk2
    go_loopw [7] (fun iv wr => ∃ (k : Nat) (cur : Array Value), k ≤ 256 ∧ iv = .int .i64 (k : Int) ∧ Hid (Below w.heap.size w wr) ∧ Hid (wr.heap[w1.heap.size]? = some (.cells cur 2 (0, 0))) ∧ Hid (cur.size = 256) ∧ Hid (∀ i, i < k → cur[i]? = some (.int .i64 (-1)))) (fun iv _ => 256 - (intOf iv).toNat)
    case atStart => exact ⟨0, cur0, by omega, rfl, HB1.out.alloc hw1 _, heap_alloc_new w1 _, HSZ, fun i hi => by omega⟩
    case round =>
      obtain ⟨k, cur, hk, rfl, HBEL, HG, HS, HALL⟩ := hrel
      by_cases hlt : k < 256
      · obtain ⟨⟨v, y0⟩, y1⟩ := cells_out HG.out k (by rw [HS.out]; exact hlt)
        have hk0 : (0 : Int) ≤ (k : Int) := by omega
        have hk1 : (k : Int) < 256 := by omega
        have HNX : Hid (∀ i, i < k + 1 → (cur.setIfInBounds k (.int .i64 (-1)))[i]? = some (.int .i64 (-1))) := fun i hi => by
          by_cases e : i = k
          · subst e
            rw [Array.getElem?_setIfInBounds_self_of_lt (by rw [HS.out]; exact hlt)]
          · rw [Array.getElem?_setIfInBounds_ne (by omega)]
            exact HALL.out i (by omega)
        have HSN : Hid ((cur.setIfInBounds k (.int .i64 (-1))).size = 256) := by unfold Hid; rw [Array.size_setIfInBounds]; exact HS.out
        go_wp2_with fail
        go_roundw
        case rel => exact ⟨k + 1, cur.setIfInBounds k (.int .i64 (-1)), by omega, by go_num, HBEL.out.setCell (by exact hw1) _, heap_setCell_same _ _ _ _ _ _ HG.out, HSN, HNX⟩
        case measure => simp [intOf]; omega
      · have hk256 : k = 256 := by omega
        subst hk256
        have HOWN : Hid (wr.ownsRow w.heap.size 2 1 (.slice (some ⟨w1.heap.size, 0, none⟩) 256 256) 256 ((List.replicate 256 (-1 : Int)).map (Value.int .i64))) := by
          refine ⟨by rw [List.length_map, List.length_replicate], .inr ⟨w1.heap.size, 256, cur, rfl, hw1, HG.out, Nat.le_refl _, by unfold maxLen; omega, by rw [HS.out], ?_⟩⟩
          apply List.ext_getElem?
          intro i
          rw [List.getElem?_take]
          by_cases hi : i < 256
          · rw [if_pos (by omega), Array.getElem?_toList, HALL.out i hi]
            rw [List.getElem?_map, List.getElem?_replicate, if_pos hi]
            rfl
          · rw [if_neg (by omega), List.getElem?_eq_none (by rw [List.length_map, List.length_replicate]; omega)]
        have HKN : Hid (KnownG (mostS l0 ts1) (List.replicate 256 (-1 : Int))) := ⟨List.length_replicate, fun s h => .inl (List.getElem_replicate ..)⟩
        have MM := MA.out wr _ 256 _ HBEL.out hw1 HOWN.out HKN.out
        go_wp2_with (go_at_call 74; refine MM.mono ?_; rintro e w3 ⟨rfl, hb3⟩)
        go_ret2
        exact ⟨by rw [HR.out]; rfl, HBEL.out.trans hb3⟩
end Go.Proofs.YtkfeihnapcfkgaaDoor
