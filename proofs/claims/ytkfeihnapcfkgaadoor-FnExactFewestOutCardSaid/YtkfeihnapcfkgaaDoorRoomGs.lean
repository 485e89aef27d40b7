/-
  GoOrder: the model's l10Order, which remembers where there is none, and GoOrder.
-/
import Derived.Test.YtkfeihnapcfkgaaDoorRoomGp
import Derived.Test.YtkfeihnapcfkgaaDoorAppendMore
namespace Go.Proofs.YtkfeihnapcfkgaaDoor
open Go.RowKit

def BadG (O : Nat → Bool) (B : List Bool) : Prop := B.length = 256 ∧ ∀ s (h : s < B.length), B[s] = true → O s = false
theorem BadG.set {O : Nat → Bool} {B : List Bool} (h : BadG O B) (s : Nat) (ho : O s = false) : BadG O (B.set s true) := by
  refine ⟨by rw [List.length_set]; exact h.1, fun i hi hb => ?_⟩
  rw [List.getElem_set] at hb
  split at hb
  · rename_i e; subst e; exact ho
  · exact h.2 i (by simpa using hi) hb
theorem rflat_bools (B : List Bool) (k : Nat) (h : k < B.length) : (B.map Value.bool)[k]? = some (.bool B[k]) := by simp [h]
theorem map_setB (B : List Bool) (r : Nat) (x : Bool) : (B.map Value.bool).set r (.bool x) = (B.set r x).map Value.bool := by rw [List.map_set]

set_option maxRecDepth 100000 in
set_option maxHeartbeats 8000000 in
theorem l10Order_any (wb : World) (kb bb ob n m c cap : Nat) (l : List Int) (ts : List TGuest)
    (hn : Hid (l.length = n)) (hm : Hid (ts.length = m)) (hl : RI wb (some ⟨bb, ob, none⟩) l) (hsn : n ≤ 1048576) (hm8 : m ≤ 8) (hp : Pl l) (hg : guB n ts = true) (hkb : wb.heap.size ≤ kb) :
    ∀ (r s : Nat) (w : World) (g o d : Nat) (B : List Bool), s < 2 ^ m → remS m s ≤ r → Below wb.heap.size wb w → (∀ W, Turned kb (kb + 1) w W → RR 2 cGuest W (some ⟨g, o, none⟩) (aftG ts s)) → w.ownsRow wb.heap.size 4 1 (.slice (some ⟨kb, 0, none⟩) 256 cap) 256 (B.map Value.bool) → BadG (okS l ts) B →
      Calls Tryd.prog 69 #[.slice (some ⟨bb, ob, none⟩) n c, .slice (some ⟨g, o, none⟩) m d, .int .i64 (s : Int), .slice (some ⟨kb, 0, none⟩) 256 cap] w fun e w' => ∃ v, e = .returned (.tuple #[v, .bool (okS l ts s)]) ∧ Turned kb (kb + 1) w w' ∧ (∃ B', Hid (w'.ownsRow wb.heap.size 4 1 (.slice (some ⟨kb, 0, none⟩) 256 cap) 256 (B'.map Value.bool)) ∧ Hid (BadG (okS l ts) B')) ∧
        (okS l ts s = true → ∃ g' cap' k, v = .slice (some ⟨g', 0, none⟩) k cap' ∧ Hid ((ordS l ts s).length = k) ∧ Hid (w'.ownsRow w.heap.size 2 1 (.slice (some ⟨g', 0, none⟩) k cap') k ((ordS l ts s).map (Value.int .i64)))) := by
  intro r
  induction r using Nat.strongRecOn with
  | ind r ih =>
    intro s w g o d B hs hr hbw hrr hown hkn
    have IH := Lib.hid ih
    clear ih
    have h256 : s < 256 := Nat.lt_of_lt_of_le hs (Nat.le_trans (Nat.pow_le_pow_right (by decide) hm8) (by decide))
    have LF := l10Left_any (some ⟨g, o, none⟩) (aftG ts s) m d w (by unfold Hid; rw [aftG_len]; exact hm.out) (hrr w (Turned.refl _ _ _)) (by omega)
    have hlf : cntN (lessN (aftG ts s)) m = leftS ts s := by unfold leftS; rw [hm.out]
    rw [hlf] at LF
    have hlle : leftS ts s ≤ 8 := by have := cntN_le (lessN (aftG ts s)) m; omega
    have CA : Hid (∀ W, Turned kb (kb + 1) w W → ∀ i : Nat, i < m → Calls Tryd.prog 60 #[.slice (some ⟨bb, ob, none⟩) n c, .slice (some ⟨g, o, none⟩) m d, .int .i64 i] W fun e w' => e = .returned (.bool (canS l ts s i)) ∧ Below W.heap.size W w') := fun W hW i hi => l10Can_any bb ob (some ⟨g, o, none⟩) l (aftG ts s) n m c d i W hn (by unfold Hid; rw [aftG_len]; exact hm.out) (hl.below (hbw.trans (hW.below hkb hbw.size))) (hrr W hW) hsn (by omega) hp (guB_aft hg s) hi
    have GN : Hid (∀ W, Turned kb (kb + 1) w W → ∀ i : Nat, i < m → Calls Tryd.prog 61 #[.slice (some ⟨g, o, none⟩) m d, .int .i64 i] W (GivesC 35 2 ((goneL (aftG ts s) i).flatMap cGuest) m W)) := fun W hW i hi => l10Gone_any g o m d i (aftG ts s) W (by unfold Hid; rw [aftG_len]; exact hm.out) (hrr W hW) (by omega) hi
    have HGL : Hid (∀ i, i < m → canS l ts s i = true → s.testBit i = false ∧ goneL (aftG ts s) i = aftG ts (s ||| 2 ^ i)) := fun i hi h => by
      have h1 := canS_new (by rw [hm.out]; exact hi) h
      exact ⟨h1, aftG_next ts s i (by rw [hm.out]; exact hi) h1⟩
    have HAT : Hid (∀ i, i < m → canS l ts s i = true → okS l ts (s ||| 2 ^ i) = true → (∀ j, j < i → canS l ts s j = true → okS l ts (s ||| 2 ^ j) = false) → okS l ts s = true ∧ ordS l ts s = (i : Int) :: ordS l ts (s ||| 2 ^ i)) := fun i hi h1 h2 h3 => okS_at (by rw [hm.out]; exact hm8) (by rw [hm.out]; exact hi) h1 h2 h3
    have HNO : Hid (¬ leftS ts s = 0 → (∀ j, j < m → canS l ts s j = true → okS l ts (s ||| 2 ^ j) = false) → okS l ts s = false) := fun h h2 => okS_none h (fun j hj => h2 j (by rw [← hm.out]; exact hj))
    have hsk : s < B.length := by rw [hkn.1]; exact h256
    have hBs := hkn.2 s hsk
    have x0 := fun (W : World) (hb : Below w.heap.size w W) => ownsRow_cell ((Row.of hown).below hb).1 s _ (rflat_bools B s hsk)
    have HBW := Lib.hid hbw
    have HKN := Lib.hid hkn
    have HOWN0 : Hid (∀ W, Below w.heap.size w W → W.ownsRow wb.heap.size 4 1 (.slice (some ⟨kb, 0, none⟩) 256 cap) 256 (B.map Value.bool)) := fun W hb => ((Row.of hown).below hb).1
    have HR := Lib.hid hr
    have hkb2 := own_lt hown
    have hwbw := hbw.size
    clear hbw hrr hown hkn hl hp hg hr hlf
    have hs0 : (0 : Int) ≤ (s : Int) := by omega
    have hs1 : (s : Int) < 256 := by omega
    generalize B[s] = x at x0 hBs
    by_cases hz : leftS ts s = 0
    · obtain ⟨hok, hord⟩ := okS_done (rs := l) hz
      rw [hz] at LF
      have HOKK := Lib.hid hok
      have HORD := Lib.hid hord
      clear hok hord hz hlle x0 hBs
      go_enter Tryd.func69, Tryd.ntmps69
      go_wp2_with (go_at_call 90; refine LF.mono ?_; rintro e w1 ⟨rfl, hb1⟩)
      go_ret2
      refine ⟨.slice (some ⟨w1.heap.size, 0, none⟩) 0 0, by rw [HOKK.out]; rfl, Turned.of (hb1.alloc hb1.size _), ⟨B, HOWN0.out _ (hb1.alloc hb1.size _), HKN⟩, fun _ => ⟨w1.heap.size, 0, 0, rfl, by rw [HORD.out]; rfl, ?_⟩⟩
      rw [HORD.out]
      exact World.ownsRow_made w1 #[] 0 hb1.size (by unfold maxLen; omega) rfl
    · have hzi : ((leftS ts s : Nat) : Int) ≠ 0 := by omega
      have hzb : (((leftS ts s : Nat) : Int) == 0) = false := by simp; omega
      have HZ := Lib.hid hz
      clear hz
      generalize leftS ts s = z at LF hlle hzi hzb HZ HNO
      cases x with
      | true =>
        have HOKK := Lib.hid (hBs rfl)
        clear hBs
        go_enter Tryd.func69, Tryd.ntmps69
        go_wp2_with (go_at_call 90; refine LF.mono ?_; rintro e w1 ⟨rfl, hb1⟩; have y0 := x0 _ hb1)
        go_ret2
        exact ⟨.slice none 0 0, by rw [HOKK.out]; rfl, Turned.of hb1, ⟨B, HOWN0.out _ hb1, HKN⟩, fun h => by rw [HOKK.out] at h; exact absurd h (by decide)⟩
      | false =>
        clear hBs
        go_enter Tryd.func69, Tryd.ntmps69
        go_wp2_with (go_at_call 90; refine LF.mono ?_; rintro e w1 ⟨rfl, hb1⟩; have y0 := x0 _ hb1)
        have HT1 : Hid (Turned kb (kb + 1) w w1) := Turned.of hb1
        have HOWN1 := Lib.hid (HOWN0.out _ hb1)
        clear hb1 y0 x0 LF
        go_loopw [10] (fun iv wr => ∃ (i : Nat) (B1 : List Bool), i ≤ m ∧ iv = .int .i64 (i : Int) ∧ Hid (Turned kb (kb + 1) w wr) ∧ Hid (wr.ownsRow wb.heap.size 4 1 (.slice (some ⟨kb, 0, none⟩) 256 cap) 256 (B1.map Value.bool)) ∧ Hid (BadG (okS l ts) B1) ∧ Hid (∀ j, j < i → canS l ts s j = true → okS l ts (s ||| 2 ^ j) = false)) (fun iv _ => m - (intOf iv).toNat)
        case atStart => exact ⟨0, B, by omega, rfl, HT1, HOWN1, HKN, fun j hj => by omega⟩
        case round =>
          obtain ⟨i, B1, hi, rfl, HTU, HOWN, HK1, HALL⟩ := hrel
          by_cases hlt : i < m
          · have CI := CA.out wr HTU.out i hlt
            have hk0 : (0 : Int) ≤ (i : Int) := by omega
            have hk1 : (i : Int) < (m : Int) := by omega
            have HSTEP : Hid ((canS l ts s i = true → okS l ts (s ||| 2 ^ i) = false) → ∀ j, j < i + 1 → canS l ts s j = true → okS l ts (s ||| 2 ^ j) = false) := fun h j hj hc => if e : j = i then (by subst e; exact h hc) else HALL.out j (by omega) hc
            cases hq : canS l ts s i with
            | false =>
              have HN := Lib.hid (HSTEP.out (fun h => by rw [hq] at h; exact absurd h (by decide)))
              rw [hq] at CI
              clear hq HSTEP
              go_wp2_with (go_at_call 60; refine CI.mono ?_; rintro e w2 ⟨rfl, hb2⟩)
              go_roundw
              case rel => exact ⟨i + 1, B1, by omega, by go_num, HTU.out.trans (Turned.of hb2), ((Row.of HOWN.out).below hb2).1, HK1, HN⟩
              case measure => simp [intOf]; omega
            | true =>
              obtain ⟨hib, hgl⟩ := HGL.out i hlt hq
              have HATI := Lib.hid (fun h => HAT.out i hlt hq h HALL.out)
              have HSI : Hid (okS l ts (s ||| 2 ^ i) = false → ∀ j, j < i + 1 → canS l ts s j = true → okS l ts (s ||| 2 ^ j) = false) := fun h => HSTEP.out (fun _ => h)
              rw [hq] at CI
              have GI := Lib.hid (fun W hW => GN.out W hW i hlt)
              rw [hgl] at GI
              have hrem := remS_next hlt hib
              have hr0 := HR.out
              have hse : ((s ||| 2 ^ i : Nat) : Int) = (s : Int) + 2 ^ i := by rw [or_add hib]; simp
              have HREC : Hid (∀ (W : World) (g3 cap3 : Nat), Turned kb (kb + 1) w W → kb + 1 ≤ g3 → RR 2 cGuest W (some ⟨g3, 0, none⟩) (aftG ts (s ||| 2 ^ i)) → W.ownsRow wb.heap.size 4 1 (.slice (some ⟨kb, 0, none⟩) 256 cap) 256 (B1.map Value.bool) →
                  Calls Tryd.prog 69 #[.slice (some ⟨bb, ob, none⟩) n c, .slice (some ⟨g3, 0, none⟩) m cap3, .int .i64 ((s : Int) + 2 ^ i), .slice (some ⟨kb, 0, none⟩) 256 cap] W fun e w' => ∃ v, e = .returned (.tuple #[v, .bool (okS l ts (s ||| 2 ^ i))]) ∧ Turned kb (kb + 1) W w' ∧ (∃ B', Hid (w'.ownsRow wb.heap.size 4 1 (.slice (some ⟨kb, 0, none⟩) 256 cap) 256 (B'.map Value.bool)) ∧ Hid (BadG (okS l ts) B')) ∧
                    (okS l ts (s ||| 2 ^ i) = true → ∃ g' cap' k, v = .slice (some ⟨g', 0, none⟩) k cap' ∧ Hid ((ordS l ts (s ||| 2 ^ i)).length = k) ∧ Hid (w'.ownsRow W.heap.size 2 1 (.slice (some ⟨g', 0, none⟩) k cap') k ((ordS l ts (s ||| 2 ^ i)).map (Value.int .i64))))) := fun W g3 cap3 hW hg3 hr3 ho3 => by
                rw [← hse]
                exact IH.out (r - 1) (by omega) (s ||| 2 ^ i) W g3 0 cap3 B1 (or_lt hs hlt) (by omega) (HBW.out.trans (hW.below hkb HBW.out.size)) (fun W' h' => RR_turned hr3 h' (.inr hg3)) ho3 HK1.out
              have hsh := shl1 (i := i) (by omega)
              have hpw : (2 : Int) ^ i < 256 ∧ 0 < (2 : Int) ^ i := by
                have h2 : 2 ^ i < 2 ^ 8 := Nat.pow_lt_pow_right (by decide) (show i < 8 by omega)
                have h3 := Nat.two_pow_pos i
                have e : (2 : Int) ^ i = ((2 ^ i : Nat) : Int) := by simp
                rw [e]
                clear e
                generalize 2 ^ i = b at h2 h3 ⊢
                omega
              have HLA : Hid ((aftG ts (s ||| 2 ^ i)).length = m) := by unfold Hid; rw [aftG_len]; exact hm.out
              have HOL : Hid ((ordS l ts (s ||| 2 ^ i)).length ≤ 8) := by unfold Hid; rw [ordS_len]; have := mostS_le l ts (s ||| 2 ^ i); rw [hm.out] at this; omega
              clear hrem hr0 hse hib hgl hq HSTEP
              generalize aftG ts (s ||| 2 ^ i) = ag at GI HREC HLA
              generalize okS l ts (s ||| 2 ^ i) = bo at HREC HATI HSI
              generalize ordS l ts (s ||| 2 ^ i) = od at HREC HATI HOL
              cases bo with
              | false =>
                have HN := Lib.hid (HSI.out rfl)
                clear HATI HSI
                go_wp2_with (first | (go_at_call 60; refine CI.mono ?_; rintro e w2 ⟨rfl, hb2⟩; have HT2 : Hid (Turned kb (kb + 1) w w2) := HTU.out.trans (Turned.of hb2)) | (go_at_call 61; refine (GI.out _ HT2.out).mono ?_; rintro e w3 ⟨g3, cap3, rfl, hb3, hge3, ho3⟩; have HT3 : Hid (Turned kb (kb + 1) w w3) := HT2.out.trans (Turned.of hb3)) | (go_at_call 69; refine (HREC.out _ _ _ HT3.out (by have := HT2.out.size; omega) (own_RR cGuest_len HLA ho3) ((Row.of ((Row.of HOWN.out).below hb2).1).below hb3).1).mono ?_; rintro e w4 ⟨v, rfl, ht4, ⟨B4, ho4, hk4⟩, _⟩))
                go_roundw
                case rel => exact ⟨i + 1, B4, by omega, by go_num, HT3.out.trans ht4, ho4, hk4, HN⟩
                case measure => simp [intOf]; omega
              | true =>
                obtain ⟨hok, hord⟩ := HATI.out rfl
                have HOKK := Lib.hid hok
                have HORD := Lib.hid hord
                have HI : Hid (∃ i0 : TypeInfo, Tryd.prog.info? 2 = some i0 ∧ i0.zero = some (.int .i64 0) ∧ i0.size = 1 ∧ i0.bytes = 8) := info_parts info2
                clear HATI HSI hok hord
                go_wp2_with (first | (go_at_call 60; refine CI.mono ?_; rintro e w2 ⟨rfl, hb2⟩; have HT2 : Hid (Turned kb (kb + 1) w w2) := HTU.out.trans (Turned.of hb2)) | (go_at_call 61; refine (GI.out _ HT2.out).mono ?_; rintro e w3 ⟨g3, cap3, rfl, hb3, hge3, ho3⟩; have HT3 : Hid (Turned kb (kb + 1) w w3) := HT2.out.trans (Turned.of hb3)) | (go_at_call 69; refine (HREC.out _ _ _ HT3.out (by have := HT2.out.size; omega) (own_RR cGuest_len HLA ho3) ((Row.of ((Row.of HOWN.out).below hb2).1).below hb3).1).mono ?_; rintro e w4 ⟨v, rfl, ht4, ⟨B4, ho4, hk4⟩, hvv⟩; obtain ⟨g4, cap4, k4, rfl, HL4, HO4⟩ := hvv (by first | rfl | trivial); have HT4 : Hid (Turned kb (kb + 1) w w4) := HT3.out.trans ht4; have hk48 : k4 ≤ 8 := (by have := HOL.out; have := HL4.out; omega); have hw4 := HT4.out.size; have hw34 := ht4.size) | (at_builtin; refine wpList_append_moreG _ rfl _ _ 24 rfl w.heap.size 2 HI.out.choose (.int .i64 0) 1 8 Tryd.underlying24 HI.out.choose_spec.1 HI.out.choose_spec.2.1 HI.out.choose_spec.2.2.1 HI.out.choose_spec.2.2.2 rfl (by decide) (.slice (some ⟨w4.heap.size, 0, none⟩) 1 1) 1 [.int .i64 (i : Int)] rfl ⟨rfl, .inr ⟨w4.heap.size, 1, _, rfl, hw4, heap_alloc_new w4 _, Nat.le_refl _, by unfold maxLen; omega, rfl, rfl⟩⟩ (by omega) ⟨g4, 0, none⟩ k4 cap4 (od.map (Value.int .i64)) rfl (by rw [List.length_map, HL4.out, Nat.mul_one]) (fun j u hj => ((Row.of HO4.out).below ((Below.refl _ _).alloc (Nat.le_refl _) _)).1.cells rfl j u hj) (by intro u hu; obtain ⟨x, _, rfl⟩ := List.mem_map.1 hu; rfl) (by unfold maxLen; omega) (by omega) (by simp; omega) ?_))
                intro g5 cap5 w5 hown5 hgrow5 hat5
                have B45 : Below w.heap.size w4 w5 := ((Below.refl _ _).alloc hw4 _ : Below w.heap.size w4 (w4.alloc (.cells #[.int .i64 (i : Int)] 2))).grown hgrow5 (by simp; omega) (fun q hq => by simp [Value.ownBlock] at hq; omega)
                have HT5 : Hid (Turned kb (kb + 1) w w5) := HT4.out.more B45
                have HB5 : Hid (w5.ownsRow wb.heap.size 4 1 (.slice (some ⟨kb, 0, none⟩) 256 cap) 256 (B4.map Value.bool)) := ((Row.of ho4.out).below ((Below.refl _ _).alloc (Nat.le_refl _) _)).1.kept hgrow5 (.inr (fun e => by simp [Value.ownBlock] at e; omega))
                have HO5 : Hid (w5.ownsRow w.heap.size 2 1 (.slice (some ⟨g5, 0, none⟩) (1 + k4) cap5) (1 + k4) ((ordS l ts s).map (Value.int .i64))) := by unfold Hid; rw [HORD.out]; exact hown5
                have HLN : Hid ((ordS l ts s).length = 1 + k4) := by unfold Hid; rw [HORD.out, List.length_cons, HL4.out]; omega
                clear hown5 hgrow5 hat5 B45
                go_wp2
                go_ret2
                exact ⟨.slice (some ⟨g5, 0, none⟩) (1 + k4) cap5, by rw [HOKK.out]; rfl, HT5.out, ⟨B4, HB5, hk4⟩, fun _ => ⟨g5, cap5, 1 + k4, rfl, HLN, HO5⟩⟩
          · have him : i = m := by omega
            subst him
            have HOKK := Lib.hid (HNO.out HZ.out HALL.out)
            have hsk1 : s < B1.length := by rw [HK1.out.1]; exact h256
            have y0 := ownsRow_cell HOWN.out s _ (rflat_bools B1 s hsk1)
            have y1 := ownsRow_frozen HOWN.out s
            have HFIN : Hid ((wr.setCell ⟨kb, s, none⟩ (.bool true)).ownsRow wb.heap.size 4 1 (.slice (some ⟨kb, 0, none⟩) 256 cap) 256 ((B1.set s true).map Value.bool)) := by unfold Hid; rw [← map_setB]; exact ownsRow_set HOWN.out s _
            have HKF : Hid (BadG (okS l ts) (B1.set s true)) := HK1.out.set s HOKK.out
            have HTF : Hid (Turned kb (kb + 1) w (wr.setCell ⟨kb, s, none⟩ (.bool true))) := HTU.out.setCell ⟨Nat.le_refl _, Nat.lt_succ_self _⟩ _
            generalize B1[s] = zz at y0
            go_wp2_with fail
            go_ret2
            exact ⟨.slice none 0 0, by rw [HOKK.out]; rfl, HTF.out, ⟨_, HFIN, HKF⟩, fun h => by rw [HOKK.out] at h; exact absurd h (by decide)⟩

set_option maxRecDepth 100000 in
set_option maxHeartbeats 4000000 in
theorem specGoOrder_any (w : World) {b0 o0 n0 c0 : Nat} (l0 : List Int) (hn0 : Hid (l0.length = n0)) (h0 : RI w (some ⟨b0, o0, none⟩) l0) (hs0 : n0 ≤ 1048576) (_wf0 : Hid (∀ k ∈ l0, (Lit.int .i64 k).wf = true)) {b1 o1 n1 c1 : Nat} (ts1 : List TGuest) (hn1 : Hid (ts1.length = n1)) (h1 : RR 2 cGuest w (some ⟨b1, o1, none⟩) ts1) (hs1 : n1 ≤ 1048576) (_wf1 : Hid (∀ t ∈ ts1, wfGuest t)) :
    Calls Tryd.prog 36 #[.slice (some ⟨b0, o0, none⟩) n0 c0, .slice (some ⟨b1, o1, none⟩) n1 c1] w (GivesIs 2 (orderOf l0 ts1) w) := by
  have OK := l10Ok_any b0 o0 (some ⟨b1, o1, none⟩) l0 ts1 n0 n1 c0 c1 w hn0 hn1 h0 h1 hs0 hs1
  cases hv : roB l0 ts1 with
  | false =>
    rw [hv] at OK
    have HR := Lib.hid (orderOf_bad hv)
    clear hv h0 h1
    go_enter Tryd.func36, Tryd.ntmps36
    go_wp2_with (go_at_call 58; refine OK.mono ?_; rintro e w1 ⟨rfl, hb1⟩)
    go_ret2
    exact givesIs_nil HR.out hb1
  | true =>
    rw [hv] at OK
    have HST : Hid (okS l0 ts1 0 = false → orderOf l0 ts1 = ([], 10)) := fun h => orderOf_stuck hv h
    have HGD : Hid (okS l0 ts1 0 = true → orderOf l0 ts1 = (ordS l0 ts1 0, 0)) := fun h => orderOf_good hv h
    obtain ⟨h4, h2, h3, _⟩ := roB_of hv
    rw [hn0.out] at h3
    rw [hn0.out, hn1.out] at h4
    have LO : Hid (∀ (W : World) (kb cap : Nat) (B : List Bool), Below w.heap.size w W → w.heap.size ≤ kb → W.ownsRow w.heap.size 4 1 (.slice (some ⟨kb, 0, none⟩) 256 cap) 256 (B.map Value.bool) → BadG (okS l0 ts1) B →
        Calls Tryd.prog 69 #[.slice (some ⟨b0, o0, none⟩) n0 c0, .slice (some ⟨b1, o1, none⟩) n1 c1, .int .i64 0, .slice (some ⟨kb, 0, none⟩) 256 cap] W fun e w' => ∃ v, e = .returned (.tuple #[v, .bool (okS l0 ts1 0)]) ∧ Below w.heap.size W w' ∧ (okS l0 ts1 0 = true → ∃ g' cap' k, v = .slice (some ⟨g', 0, none⟩) k cap' ∧ Hid ((ordS l0 ts1 0).length = k) ∧ Hid (w'.ownsRow W.heap.size 2 1 (.slice (some ⟨g', 0, none⟩) k cap') k ((ordS l0 ts1 0).map (Value.int .i64))))) := fun W kb cap B hW hkb ho hB => by
      have h := l10Order_any w kb b0 o0 n0 n1 c0 cap l0 ts1 hn0 hn1 h0 hs0 h4.2.2 h2 h3 hkb 8 0 W b1 o1 c1 B (Nat.two_pow_pos _) (Nat.le_trans (remS_le _ _) h4.2.2) hW (fun W' h' => by
        rw [aftG_zero]
        rcases Nat.eq_zero_or_pos ts1.length with hz | hz
        · exact .inl (List.eq_nil_of_length_eq_zero hz)
        · obtain ⟨b2, off2, he, hb2, _⟩ := h1.addr hz
          injection he with he
          injection he with e1 e2
          exact RR_turned (h1.below hW) h' (.inl (by omega))) ho hB
      refine h.mono ?_
      rintro e w' ⟨v, he, ht, _, hvv⟩
      exact ⟨v, he, ht.below hkb hW.size, hvv⟩
    have hib : (Tryd.prog.info? 4).map (fun i => (i.zero, i.size, i.bytes)) = some (some (.bool false), 1, 1) := by kernel_rfl
    obtain ⟨i0, hi, hz0, hz1, hz2⟩ := info_parts hib
    have hmk := run_make_rowN (P := Tryd.prog) 84 4 i0 _ Tryd.underlying84 hi hz0 .i64 .i64 256 256 (Nat.le_refl _) (by rw [hz2]; omega) (by omega)
    rw [hz1] at hmk
    clear hi hz0 hz1 hz2 hib
    have hcur : (madeCells (Value.cells (.bool false)) (256 * 1)).toList = (List.replicate 256 false).map Value.bool := by kernel_rfl
    have HSZ : Hid ((madeCells (Value.cells (.bool false)) (256 * 1)).size = 256 * 1) := size_madeCells _ _
    have HCUR := Lib.hid hcur
    clear hcur
    generalize madeCells (Value.cells (.bool false)) (256 * 1) = cur0 at hmk HSZ HCUR
    have hmk2 : ∀ W : World, (Instr.makeSlice 84 (.int .i64 256) (.int .i64 256)).run Tryd.prog W = .ok (.slice (some ⟨W.heap.size, 0, none⟩) 256 256) (W.alloc (.cells cur0 4)) := hmk
    have HKN : Hid (BadG (okS l0 ts1) (List.replicate 256 false)) := ⟨List.length_replicate, fun s h hb => by rw [List.getElem_replicate] at hb; exact absurd hb (by decide)⟩
    have HOWN : Hid (∀ W : World, w.heap.size ≤ W.heap.size → (W.alloc (.cells cur0 4)).ownsRow w.heap.size 4 1 (.slice (some ⟨W.heap.size, 0, none⟩) 256 256) 256 ((List.replicate 256 false).map Value.bool)) := fun W hW => by
      refine ⟨by rw [List.length_map, List.length_replicate], .inr ⟨W.heap.size, 256, cur0, rfl, hW, heap_alloc_new W _, Nat.le_refl _, by unfold maxLen; omega, HSZ.out, ?_⟩⟩
      rw [HCUR.out, List.take_of_length_le (by rw [List.length_map, List.length_replicate]; omega)]
    clear hv h0 h1 h2 h3 hmk
    cases hok : okS l0 ts1 0 with
    | false =>
      have HR := Lib.hid (HST.out hok)
      rw [hok] at LO
      clear HST HGD hok
      go_enter Tryd.func36, Tryd.ntmps36
      go_wp2_with (first | (go_at_call 58; refine OK.mono ?_; rintro e w1 ⟨rfl, hb1⟩) | (go_at_call 69; refine (LO.out _ _ _ _ (hb1.alloc hb1.size _) hb1.size (HOWN.out _ hb1.size) HKN.out).mono ?_; rintro e w2 ⟨v, rfl, hb2, _⟩))
      go_ret2
      exact givesIs_nil HR.out ((hb1.alloc hb1.size _).trans hb2)
    | true =>
      have HR := Lib.hid (HGD.out hok)
      rw [hok] at LO
      clear HST HGD hok
      go_enter Tryd.func36, Tryd.ntmps36
      go_wp2_with (first | (go_at_call 58; refine OK.mono ?_; rintro e w1 ⟨rfl, hb1⟩) | (go_at_call 69; refine (LO.out _ _ _ _ (hb1.alloc hb1.size _) hb1.size (HOWN.out _ hb1.size) HKN.out).mono ?_; rintro e w2 ⟨v, rfl, hb2, hvv⟩; obtain ⟨g4, cap4, k4, rfl, HL4, HO4⟩ := hvv (by first | rfl | trivial)))
      go_ret2
      exact givesIs_of HR.out ((hb1.alloc hb1.size _).trans hb2) HL4.out (own_lo HO4.out (hb1.alloc hb1.size _).size)
end Go.Proofs.YtkfeihnapcfkgaaDoor
