/-
  How many guests can still go: the model's l10Most, which remembers in a list; MostGone.
-/
import Derived.Test.YtkfeihnapcfkgaaDoorRoomO
import Derived.Test.YtkfeihnapcfkgaaDoorRoomsO
namespace Go.Proofs.YtkfeihnapcfkgaaDoor
open Go.RowKit Go.Maps Go.ChangeShapes

theorem l00Max_any (a b : Int) (w : World) : Calls Tryd.prog 93 #[.int .i64 a, .int .i64 b] w fun e w' => e = .returned (.int .i64 (max a b)) ∧ w = w' := by
  by_cases h : b < a
  · have HR : Hid (max a b = a) := by unfold Hid; omega
    go_enter Tryd.func93, Tryd.ntmps93
    go_wp2
    go_ret
    exact ⟨ret_int HR.out.symm, rfl⟩
  · have HR : Hid (max a b = b) := by unfold Hid; omega
    go_enter Tryd.func93, Tryd.ntmps93
    go_wp2
    go_ret
    exact ⟨ret_int HR.out.symm, rfl⟩
/-- A list that remembers what a function says of some numbers. -/
def KnownG (M : Nat → Nat) (K : List Int) : Prop := K.length = 256 ∧ ∀ s (h : s < K.length), K[s] = -1 ∨ K[s] = (M s : Int)
theorem KnownG.set {M : Nat → Nat} {K : List Int} (h : KnownG M K) (s : Nat) : KnownG M (K.set s (M s)) := by
  refine ⟨by rw [List.length_set]; exact h.1, fun i hi => ?_⟩
  rw [List.getElem_set]
  split
  · rename_i e; subst e; exact .inr rfl
  · exact h.2 i (by simpa using hi)
theorem RR_turned {w w' : World} {g o a c : Nat} {ts : List TGuest} (h : RR 2 cGuest w (some ⟨g, o, none⟩) ts) (ht : Turned a c w w') (hg : g < a ∨ c ≤ g) : RR 2 cGuest w' (some ⟨g, o, none⟩) ts := by
  rcases Nat.eq_zero_or_pos ts.length with hz | hz
  · exact .inl (List.eq_nil_of_length_eq_zero hz)
  · obtain ⟨b, off, he, hb, hc⟩ := h.addr hz
    injection he with he
    injection he with e1 e2
    subst e1 e2
    refine .inr ⟨g, o, rfl, Nat.lt_of_lt_of_le hb ht.size, fun i hi j v hj => ?_⟩
    exact (World.cell?_of_block (w := w) (a := ⟨g, o + i * 2 + j, none⟩) (ht.block g hb hg)).trans (hc i hi j v hj)
theorem shl1 {i : Nat} (h : i < 8) : IntKind.i64.wrap (2 ^ i) = 2 ^ i := by
  have h2 : 2 ^ i < 2 ^ 8 := Nat.pow_lt_pow_right (by decide) h
  have e : (2 : Int) ^ i = ((2 ^ i : Nat) : Int) := by simp
  rw [e, IntKind.wrap_i64]
  clear e
  generalize 2 ^ i = b at h2 ⊢
  omega

set_option maxRecDepth 100000 in
set_option maxHeartbeats 8000000 in
theorem l10Most_any (wb : World) (kb bb ob n m c cap : Nat) (l : List Int) (ts : List TGuest)
    (hn : Hid (l.length = n)) (hm : Hid (ts.length = m)) (hl : RI wb (some ⟨bb, ob, none⟩) l) (hsn : n ≤ 1048576) (hm8 : m ≤ 8) (hp : Pl l) (hg : guB n ts = true) (hkb : wb.heap.size ≤ kb) :
    ∀ (r s : Nat) (w : World) (g o d : Nat) (K : List Int), s < 2 ^ m → remS m s ≤ r → Below wb.heap.size wb w → (∀ W, Turned kb (kb + 1) w W → RR 2 cGuest W (some ⟨g, o, none⟩) (aftG ts s)) → w.ownsRow wb.heap.size 2 1 (.slice (some ⟨kb, 0, none⟩) 256 cap) 256 (K.map (Value.int .i64)) → KnownG (mostS l ts) K →
      Calls Tryd.prog 74 #[.slice (some ⟨bb, ob, none⟩) n c, .slice (some ⟨g, o, none⟩) m d, .int .i64 (s : Int), .slice (some ⟨kb, 0, none⟩) 256 cap] w fun e w' => e = .returned (.int .i64 (mostS l ts s : Nat)) ∧ Turned kb (kb + 1) w w' ∧ ∃ K', Hid (w'.ownsRow wb.heap.size 2 1 (.slice (some ⟨kb, 0, none⟩) 256 cap) 256 (K'.map (Value.int .i64))) ∧ Hid (KnownG (mostS l ts) K') := by
  intro r
  induction r using Nat.strongRecOn with
  | ind r ih =>
    intro s w g o d K hs hr hbw hrr hown hkn
    have IH := Lib.hid ih
    clear ih
    have h256 : s < 256 := Nat.lt_of_lt_of_le hs (Nat.le_trans (Nat.pow_le_pow_right (by decide) hm8) (by decide))
    have hsk : s < K.length := by rw [hkn.1]; exact h256
    have x0 := ownsRow_cell hown s _ (rflat_ints K s hsk)
    have hKs := hkn.2 s hsk
    have HM := Lib.hid (mostS_eq l ts s)
    have HMLE : Hid (∀ s, mostS l ts s ≤ 8) := fun s => by have := mostS_le l ts s; rw [hm.out] at this; omega
    rw [hm.out] at HM
    have CA : Hid (∀ W, Turned kb (kb + 1) w W → ∀ i : Nat, i < m → Calls Tryd.prog 60 #[.slice (some ⟨bb, ob, none⟩) n c, .slice (some ⟨g, o, none⟩) m d, .int .i64 i] W fun e w' => e = .returned (.bool (canS l ts s i)) ∧ Below W.heap.size W w') := fun W hW i hi => l10Can_any bb ob (some ⟨g, o, none⟩) l (aftG ts s) n m c d i W hn (by unfold Hid; rw [aftG_len]; exact hm.out) (hl.below (hbw.trans (hW.below hkb hbw.size))) (hrr W hW) hsn (by omega) hp (guB_aft hg s) hi
    have GN : Hid (∀ W, Turned kb (kb + 1) w W → ∀ i : Nat, i < m → Calls Tryd.prog 61 #[.slice (some ⟨g, o, none⟩) m d, .int .i64 i] W (GivesC 35 2 ((goneL (aftG ts s) i).flatMap cGuest) m W)) := fun W hW i hi => l10Gone_any g o m d i (aftG ts s) W (by unfold Hid; rw [aftG_len]; exact hm.out) (hrr W hW) (by omega) hi
    have HGL : Hid (∀ i, i < m → canS l ts s i = true → s.testBit i = false ∧ goneL (aftG ts s) i = aftG ts (s ||| 2 ^ i)) := fun i hi h => by
      have h1 := canS_new (by rw [hm.out]; exact hi) h
      exact ⟨h1, aftG_next ts s i (by rw [hm.out]; exact hi) h1⟩
    have HBW := Lib.hid hbw
    have HKN := Lib.hid hkn
    have HOWN0 := Lib.hid hown
    have HR := Lib.hid hr
    have hkb2 := own_lt hown
    clear hbw hrr hown hkn hl hp hg hr
    have hs0 : (0 : Int) ≤ (s : Int) := by omega
    have hs1 : (s : Int) < 256 := by omega
    generalize K[s] = x at x0 hKs
    by_cases hx : 0 ≤ x
    · have hxx : x = (mostS l ts s : Int) := by omega
      have HXX := Lib.hid hxx
      clear hKs hxx
      go_enter Tryd.func74, Tryd.ntmps74
      go_wp2_with fail
      go_ret
      exact ⟨ret_int HXX.out, Turned.refl _ _ _, K, HOWN0, HKN⟩
    · clear hKs
      go_enter Tryd.func74, Tryd.ntmps74
      go_wp2_with fail
      go_loopw [9, 10] (fun bv iv wr => ∃ (i : Nat) (K1 : List Int), i ≤ m ∧ bv = .int .i64 ((foldM (fun k => mostS l ts (s ||| 2 ^ k)) (filtK (canS l ts s) i) : Nat) : Int) ∧ iv = .int .i64 (i : Int) ∧ Hid (Turned kb (kb + 1) w wr) ∧ Hid (wr.ownsRow wb.heap.size 2 1 (.slice (some ⟨kb, 0, none⟩) 256 cap) 256 (K1.map (Value.int .i64))) ∧ Hid (KnownG (mostS l ts) K1)) (fun _ iv _ => m - (intOf iv).toNat)
      case atStart => exact ⟨0, K, by omega, rfl, rfl, Turned.refl _ _ _, HOWN0, HKN⟩
      case round =>
        obtain ⟨i, K1, hi, rfl, rfl, HTU, HOWN, HK1⟩ := hrel
        by_cases hlt : i < m
        · have CI := CA.out wr HTU.out i hlt
          have hk0 : (0 : Int) ≤ (i : Int) := by omega
          have hk1 : (i : Int) < (m : Int) := by omega
          cases hq : canS l ts s i with
          | false =>
            have HN : Hid (filtK (canS l ts s) (i + 1) = filtK (canS l ts s) i) := filtK_no hq
            rw [hq] at CI
            clear hq
            generalize hA : foldM (fun k => mostS l ts (s ||| 2 ^ k)) (filtK (canS l ts s) i) = A
            have HA := Lib.hid hA
            clear hA
            go_wp2_with (go_at_call 60; refine CI.mono ?_; rintro e w2 ⟨rfl, hb2⟩)
            go_roundw
            case rel => exact ⟨i + 1, K1, by omega, by rw [HN.out, HA.out], by go_num, HTU.out.trans (Turned.of hb2), ((Row.of HOWN.out).below hb2).1, HK1⟩
            case measure => simp [intOf]; omega
          | true =>
            have hnx : foldM (fun k => mostS l ts (s ||| 2 ^ k)) (filtK (canS l ts s) (i + 1)) = max (foldM (fun k => mostS l ts (s ||| 2 ^ k)) (filtK (canS l ts s) i)) (1 + mostS l ts (s ||| 2 ^ i)) := by rw [filtK_yes hq, foldM_app]
            obtain ⟨hib, hgl⟩ := HGL.out i hlt hq
            rw [hq] at CI
            have GI := Lib.hid (fun W hW => GN.out W hW i hlt)
            rw [hgl] at GI
            have hrem := remS_next hlt hib
            have hr0 := HR.out
            have hle1 := HMLE.out (s ||| 2 ^ i)
            have hse : ((s ||| 2 ^ i : Nat) : Int) = (s : Int) + 2 ^ i := by rw [or_add hib]; simp
            have HREC : Hid (∀ (W : World) (g3 cap3 : Nat), Turned kb (kb + 1) w W → kb + 1 ≤ g3 → RR 2 cGuest W (some ⟨g3, 0, none⟩) (aftG ts (s ||| 2 ^ i)) → W.ownsRow wb.heap.size 2 1 (.slice (some ⟨kb, 0, none⟩) 256 cap) 256 (K1.map (Value.int .i64)) →
                Calls Tryd.prog 74 #[.slice (some ⟨bb, ob, none⟩) n c, .slice (some ⟨g3, 0, none⟩) m cap3, .int .i64 ((s : Int) + 2 ^ i), .slice (some ⟨kb, 0, none⟩) 256 cap] W fun e w' => e = .returned (.int .i64 (mostS l ts (s ||| 2 ^ i) : Nat)) ∧ Turned kb (kb + 1) W w' ∧ ∃ K', Hid (w'.ownsRow wb.heap.size 2 1 (.slice (some ⟨kb, 0, none⟩) 256 cap) 256 (K'.map (Value.int .i64))) ∧ Hid (KnownG (mostS l ts) K')) := fun W g3 cap3 hW hg3 hr3 ho3 => by
              rw [← hse]
              exact IH.out (r - 1) (by omega) (s ||| 2 ^ i) W g3 0 cap3 K1 (or_lt hs hlt) (by omega) (HBW.out.trans (hW.below hkb HBW.out.size)) (fun W' h' => RR_turned hr3 h' (.inr hg3)) ho3 HK1.out
            have HNX := Lib.hid hnx
            have hsh := shl1 (i := i) (by omega)
            have hpw : (2 : Int) ^ i < 256 ∧ 0 < (2 : Int) ^ i := by
              have h2 : 2 ^ i < 2 ^ 8 := Nat.pow_lt_pow_right (by decide) (show i < 8 by omega)
              have h3 := Nat.two_pow_pos i
              have e : (2 : Int) ^ i = ((2 ^ i : Nat) : Int) := by simp
              rw [e]
              clear e
              generalize 2 ^ i = b at h2 h3 ⊢
              omega
            clear hnx hrem hr0 hse hib hgl
            generalize hB : mostS l ts (s ||| 2 ^ i) = B at HNX hle1 HREC
            generalize hA : foldM (fun k => mostS l ts (s ||| 2 ^ k)) (filtK (canS l ts s) i) = A at HNX
            clear hB hA
            have HC : Hid (((foldM (fun k => mostS l ts (s ||| 2 ^ k)) (filtK (canS l ts s) (i + 1)) : Nat) : Int) = max (A : Int) (1 + (B : Int))) := by unfold Hid; rw [HNX.out]; omega
            have MX := fun W => l00Max_any (A : Int) (1 + (B : Int)) W
            clear HNX
            have hB0 : (0 : Int) ≤ (B : Int) := by omega
            have HLA : Hid ((aftG ts (s ||| 2 ^ i)).length = m) := by unfold Hid; rw [aftG_len]; exact hm.out
            go_wp2_with (first | (go_at_call 60; refine CI.mono ?_; rintro e w2 ⟨rfl, hb2⟩; have HT2 : Hid (Turned kb (kb + 1) w w2) := HTU.out.trans (Turned.of hb2)) | (go_at_call 61; refine (GI.out _ HT2.out).mono ?_; rintro e w3 ⟨g3, cap3, rfl, hb3, hge3, ho3⟩; have HT3 : Hid (Turned kb (kb + 1) w w3) := HT2.out.trans (Turned.of hb3)) | (go_at_call 74; refine (HREC.out _ _ _ HT3.out (by have := HT2.out.size; omega) (own_RR cGuest_len HLA ho3) ((Row.of ((Row.of HOWN.out).below hb2).1).below hb3).1).mono ?_; rintro e w4 ⟨rfl, ht4, K4, ho4, hk4⟩) | (go_at_call 93; refine (MX _).mono ?_; rintro e w' ⟨rfl, rfl⟩))
            go_roundw
            case rel => exact ⟨i + 1, K4, by omega, by rw [HC.out], by go_num, HT3.out.trans ht4, ho4, hk4⟩
            case measure => simp [intOf]; omega
        · have him : i = m := by omega
          subst him
          have hfm : foldM (fun k => mostS l ts (s ||| 2 ^ k)) (filtK (canS l ts s) i) = mostS l ts s := HM.out.symm
          rw [hfm]
          have hsk1 : s < K1.length := by rw [HK1.out.1]; exact h256
          have y0 := ownsRow_cell HOWN.out s _ (rflat_ints K1 s hsk1)
          have y1 := ownsRow_frozen HOWN.out s
          have HFIN : Hid ((wr.setCell ⟨kb, s, none⟩ (.int .i64 (mostS l ts s : Nat))).ownsRow wb.heap.size 2 1 (.slice (some ⟨kb, 0, none⟩) 256 cap) 256 ((K1.set s (mostS l ts s : Nat)).map (Value.int .i64))) := by unfold Hid; rw [← map_setI]; exact ownsRow_set HOWN.out s _
          have HKF : Hid (KnownG (mostS l ts) (K1.set s (mostS l ts s : Nat))) := HK1.out.set s
          have HTF : Hid (Turned kb (kb + 1) w (wr.setCell ⟨kb, s, none⟩ (.int .i64 (mostS l ts s : Nat)))) := HTU.out.setCell ⟨Nat.le_refl _, Nat.lt_succ_self _⟩ _
          clear hfm
          generalize K1[s] = z at y0
          go_wp2_with fail
          go_ret
          exact ⟨rfl, HTF.out, _, HFIN, HKF⟩
end Go.Proofs.YtkfeihnapcfkgaaDoor
