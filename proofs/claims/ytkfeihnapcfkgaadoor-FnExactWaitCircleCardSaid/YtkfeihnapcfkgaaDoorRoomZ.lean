/-
  WaitCircle: the program's circleFrom and WaitCircle.
-/
import Derived.Test.YtkfeihnapcfkgaaDoorRoomY
import Derived.Test.YtkfeihnapcfkgaaDoorRoomsP
import Derived.WalkSpells
namespace Go.Proofs.YtkfeihnapcfkgaaDoor
open Go.RowKit

def inP (out : List Int) (i : Nat) : Bool := decide ((i : Int) ∈ out)
theorem setN_in_nil (m : Nat) : setN (inP []) m = 0 := setN_zero.2 (fun i _ => by simp [inP])
theorem setN_in_next {out : List Int} {k m : Nat} (hk : k < m) : setN (inP out) m ||| 2 ^ k = setN (inP (out ++ [(k : Int)])) m := by
  apply Nat.eq_of_testBit_eq
  intro i
  rw [Nat.testBit_or, setN_bit, setN_bit, Nat.testBit_two_pow]
  unfold inP
  by_cases e : i = k
  · subst e; simp [hk]
  · have e2 : ¬ k = i := fun h => e h.symm
    have e3 : ¬ (i : Int) = (k : Int) := by omega
    simp [e2, e3]

set_option maxHeartbeats 8000000 in
theorem circleFrom_any (a : Option Addr) (rs : List Int) (ts : List TGuest) (m ca first : Nat) (w : World) (ha : RI w a (folL rs ts m)) (hm8 : m ≤ 8) (hf : first < m) (hrg : ∀ i, folN rs ts i = -1 ∨ ∃ k : Nat, k < m ∧ folN rs ts i = (k : Int)) :
    Calls Tryd.prog 66 #[.slice a m ca, .int .i64 first] w fun e w' => Below w.heap.size w w' ∧ ∃ out at_, Hid (resC m (folN rs ts) [] first = (out, at_)) ∧
      ((¬ at_ = (first : Int) ∧ e = .returned (.slice none 0 0)) ∨ (at_ = (first : Int) ∧ ∃ g cap c, e = .returned (.slice (some ⟨g, 0, none⟩) c cap) ∧ Hid (out.length = c) ∧ Hid (w'.ownsRow w.heap.size 2 1 (.slice (some ⟨g, 0, none⟩) c cap) c (out.map (Value.int .i64))))) := by
  have HA : Hid (∀ W, Below w.heap.size w W → RI W a (folL rs ts m)) := fun W h => ha.below h
  have HRG := Lib.hid hrg
  have HI : Hid (∃ i0 : TypeInfo, Tryd.prog.info? 2 = some i0 ∧ i0.zero = some (.int .i64 0) ∧ i0.size = 1 ∧ i0.bytes = 8) := info_parts info2
  clear ha hrg
  have hf0 : (0 : Int) ≤ (first : Int) := by omega
  go_enter Tryd.func66, Tryd.ntmps66
  go_wp2_with fail
  go_loopw [5, 6, 7] (fun vo sv kv wr => ∃ (c cap : Nat) (ao : Option Addr) (out : List Int) (at_ : Int), vo = .slice ao c cap ∧ sv = .int .u64 ((setN (inP out) m : Nat) : Int) ∧ kv = .int .i64 at_ ∧ Hid (Below w.heap.size w wr) ∧ Hid (out.length = c) ∧ Hid (wr.ownsRow w.heap.size 2 1 (.slice ao c cap) c (out.map (Value.int .i64))) ∧ Hid (OkC m out) ∧ Hid (at_ = -1 ∨ ∃ k : Nat, k < m ∧ at_ = (k : Int)) ∧ Hid (resC m (folN rs ts) [] first = resC m (folN rs ts) out at_)) (fun vo _ _ _ => m - slLen vo)
  case atStart => exact ⟨0, 0, none, [], (first : Int), rfl, by rw [setN_in_nil]; rfl, rfl, Below.refl _ _, rfl, World.ownsRow_nil _ _ _ _, OkC.nil m, .inr ⟨first, hf, rfl⟩, rfl⟩
  case round =>
    obtain ⟨c, cap, ao, out, at_, rfl, rfl, rfl, HBEL, HLEN, HOWN, HOK, HAT, HWY⟩ := hrel
    have hcle : c ≤ m := HOK.out.le HLEN.out
    have hx40 := setN_lt64 (inP out) (k := m) (by omega)
    rcases HAT.out with rfl | ⟨k, hkm, rfl⟩
    · have HST : Hid (resC m (folN rs ts) [] first = (out, -1)) := by unfold Hid; rw [HWY.out]; exact resC_stop (fun h => by omega)
      have hne : ((-1 : Int) != (first : Int)) = true := by simp
      clear HWY HAT hx40
      generalize setN (inP out) m = x
      go_wp2_with fail
      go_ret
      exact ⟨HBEL.out, out, -1, HST, .inl ⟨by omega, rfl⟩⟩
    · have HAS : Hid (∀ W, Calls Tryd.prog 54 #[.int .u64 ((setN (inP out) m : Nat) : Int), .int .i64 (k : Int)] W fun e w' => e = .returned (.bool (inP out k)) ∧ W = w') := fun W => by
        have := has_any (setN (inP out) m) k W hx40 (by omega)
        rw [setN_bit, decide_eq_true hkm, Bool.true_and] at this
        exact this
      have hkn : ((k : Int) != -1) = true := by simp
      by_cases hin : (k : Int) ∈ out
      · have HST : Hid (resC m (folN rs ts) [] first = (out, (k : Int))) := by unfold Hid; rw [HWY.out]; exact resC_stop (fun h => h.2.2 hin)
        have hq : inP out k = true := decide_eq_true hin
        rw [hq] at HAS
        have hcp : 0 < c := by have := List.length_pos_of_mem hin; rw [HLEN.out] at this; exact this
        clear HWY HAT hq hin hx40
        generalize setN (inP out) m = x at HAS
        by_cases hkf : k = first
        · subst hkf
          obtain ⟨g, cap2, hv, _, _⟩ := HOWN.out.form hcp
          injection hv with h1 h2 h3
          subst h1 h3
          go_wp2_with (go_at_call 54; refine (HAS.out _).mono ?_; rintro e w2 ⟨rfl, rfl⟩)
          go_ret
          exact ⟨HBEL.out, out, _, HST, .inr ⟨rfl, g, cap, c, rfl, HLEN, HOWN⟩⟩
        · have hne : ((k : Int) != (first : Int)) = true := by simp; omega
          go_wp2_with (go_at_call 54; refine (HAS.out _).mono ?_; rintro e w2 ⟨rfl, rfl⟩)
          go_ret
          exact ⟨HBEL.out, out, _, HST, .inl ⟨by omega, rfl⟩⟩
      · have HST : Hid (resC m (folN rs ts) [] first = resC m (folN rs ts) (out ++ [(k : Int)]) (folN rs ts k)) := by unfold Hid; rw [HWY.out]; exact resC_step hkm hin
        have hq : inP out k = false := decide_eq_false hin
        rw [hq] at HAS
        have HOK2 := Lib.hid (HOK.out.next hkm hin)
        have hclt := HOK.out.lt HLEN.out hkm hin
        have WI : Hid (∀ W, Calls Tryd.prog 56 #[.int .u64 ((setN (inP out) m : Nat) : Int), .int .i64 (k : Int)] W fun e w' => e = .returned (.int .u64 ((setN (inP (out ++ [(k : Int)])) m : Nat) : Int)) ∧ W = w') := fun W => by
          have := with_any (setN (inP out) m) k W hx40 (by omega)
          rw [setN_in_next hkm] at this
          exact this
        have hw2 := HBEL.out.size
        have HGE : Hid (∀ q, (Value.slice ao c cap).ownBlock = some q → w.heap.size ≤ q) := fun q hq => (HOWN.out.lt q hq).1
        have hkl : k < (folL rs ts m).length := by rw [folL_len]; exact hkm
        have HXK : Hid (∀ W, Below w.heap.size w W → ∃ b off, a = some ⟨b, off, none⟩ ∧ W.cell? ⟨b, off + k, none⟩ = some (.int .i64 (folN rs ts k))) := fun W hW => by
          obtain ⟨b, off, h1, _, h2⟩ := (HA.out W hW).at_ k hkl
          rw [folL_get] at h2
          exact ⟨b, off, h1, h2⟩
        have hk0 : (0 : Int) ≤ (k : Int) := by omega
        have hk1 : (k : Int) < (m : Int) := by omega
        have HN := Lib.hid (HRG.out k)
        clear HAT HWY hin hq HOK hx40 hkl
        generalize setN (inP out) m = x at HAS WI
        generalize hy : setN (inP (out ++ [(k : Int)])) m = y at WI
        have HY := Lib.hid hy
        clear hy
        generalize folN rs ts k = z at HXK HN HST
        go_wp2_with (first | (go_at_call 54; refine (HAS.out _).mono ?_; rintro e w2 ⟨rfl, rfl⟩) | (at_builtin; refine wpList_append_lies _ rfl _ _ 24 rfl w.heap.size 2 HI.out.choose (.int .i64 0) 1 8 Tryd.underlying24 HI.out.choose_spec.1 HI.out.choose_spec.2.1 HI.out.choose_spec.2.2.1 HI.out.choose_spec.2.2.2 rfl (by decide) (.slice ao c cap) c (out.map (Value.int .i64)) rfl (HOWN.out.alloc _) ⟨wr.heap.size, 0, none⟩ 1 1 [.int .i64 (k : Int)] rfl rfl (news_oneG _ _ _) (by intro u hu; simp at hu; subst hu; rfl) (by omega) (by unfold maxLen; omega) (by omega) (by simp; omega) (wr.heap.size + 1) (by simp) ?_))
        intro g cap' w5 hown1 hgrow hat hlt2
        have B5 : Hid (Below w.heap.size w w5) := (HBEL.out.alloc hw2 _).grown hgrow (by simp; omega) HGE.out
        have O5 := Lib.hid hown1
        clear hown1 hgrow hat hlt2 HAS
        obtain ⟨b, off, rfl, z0⟩ := HXK.out _ B5.out
        go_wp2_with (go_at_call 56; refine (WI.out _).mono ?_; rintro e w6 ⟨rfl, rfl⟩)
        go_roundw
        case rel => exact ⟨c + 1, cap', _, out ++ [(k : Int)], z, rfl, by rw [HY.out], rfl, B5, by unfold Hid; rw [List.length_append, HLEN.out]; rfl, by unfold Hid; rw [List.map_append]; exact O5.out, HOK2, HN, HST⟩
        case measure => simp [slLen]; omega

set_option maxHeartbeats 8000000 in
theorem implWaitCircle_any (w : World) {b0 o0 n0 c0 : Nat} (l0 : List Int) (hn0 : Hid (l0.length = n0)) (h0 : RI w (some ⟨b0, o0, none⟩) l0) (hs0 : n0 ≤ 1048576) (_wf0 : Hid (∀ k ∈ l0, (Lit.int .i64 k).wf = true)) {a1 : Option Addr} {n1 c1 : Nat} (ts1 : List TGuest) (hn1 : Hid (ts1.length = n1)) (h1 : RR 2 cGuest w a1 ts1) (hs1 : n1 ≤ 1048576) (_wf1 : Hid (∀ t ∈ ts1, wfGuest t)) (hT : BitTab w) :
    Calls Tryd.prog 25 #[.slice (some ⟨b0, o0, none⟩) n0 c0, .slice a1 n1 c1] w (GivesIs 2 (circOf l0 ts1) w) := by
  have OK := checkRooms_any b0 o0 a1 l0 ts1 n0 n1 c0 c1 w hn0 hn1 h0 h1 hs0 hs1
  have FO : Hid (∀ W, Below w.heap.size w W → 0 < n0 → n1 ≤ 8 → Pl l0 → guB n0 ts1 = true → Calls Tryd.prog 65 #[.slice (some ⟨b0, o0, none⟩) n0 c0, .slice a1 n1 c1] W fun e w' => ∃ ao cap, e = .returned (.slice ao n1 cap) ∧ Below W.heap.size W w' ∧ w'.ownsRow W.heap.size 2 1 (.slice ao n1 cap) n1 ((folL l0 ts1 n1).map (Value.int .i64))) := fun W h h2 h8 hp hg => followers_any b0 o0 a1 l0 ts1 n0 n1 c0 c1 W hn0 hn1 (h0.below h) (h1.below h) h2 hs0 h8 hp hg (hT.below h)
  clear h0 h1 hT
  cases hv : roB l0 ts1 with
  | false =>
    have HC : rcode l0 ts1 = 1 := by unfold rcode; rw [hv]; rfl
    rw [HC] at OK
    have HR := Lib.hid (circOf_bad hv)
    clear hv HC
    go_enter Tryd.func25, Tryd.ntmps25
    go_wp2_with (go_at_call 43; refine OK.mono ?_; rintro e w1 ⟨rfl, hb1⟩)
    go_ret2
    exact givesIs_nil HR.out hb1
  | true =>
    have HC : rcode l0 ts1 = 0 := by unfold rcode; rw [hv]; rfl
    rw [HC] at OK
    have HNO : Hid ((∀ i, i < n1 → isC l0 ts1 i = false) → circOf l0 ts1 = ([], 3)) := fun h => circOf_none hv (by rw [hn1.out]; exact h)
    have HYES : Hid (∀ i, i < n1 → isC l0 ts1 i = true → (∀ j, j < i → isC l0 ts1 j = false) → circOf l0 ts1 = ((wayC l0 ts1 i).1, 0)) := fun i hi h2 h3 => circOf_at hv (by rw [hn1.out]; exact hi) h2 h3
    obtain ⟨h4, h2, h3, _⟩ := roB_of hv
    rw [hn0.out] at h3
    rw [hn0.out, hn1.out] at h4
    have h8 : n1 ≤ 8 := h4.2.2
    have FOI := Lib.hid (fun W hW => FO.out W hW (by omega) h8 h2 h3)
    have HFW : ∀ i k : Nat, k < n1 → folN l0 ts1 i = (k : Int) → waitN l0 ts1 k = true := fun i k _ h => by
      rcases firstN_range (p := folP l0 ts1 i) (m := ts1.length) (by rw [hn1.out]; omega) with h5 | ⟨k2, _, h6, h7⟩
      · have : folN l0 ts1 i = -1 := h5
        omega
      · have h9 : folN l0 ts1 i = (k2 : Int) := h6
        have : k2 = k := by omega
        subst this
        unfold folP at h7
        rw [Bool.and_eq_true] at h7
        exact h7.1
    have hrg : ∀ i, folN l0 ts1 i = -1 ∨ ∃ k : Nat, k < n1 ∧ folN l0 ts1 i = (k : Int) := fun i => by
      rcases firstN_range (p := folP l0 ts1 i) (m := ts1.length) (by rw [hn1.out]; omega) with h | ⟨k, h5, h6, _⟩
      · exact .inl h
      · exact .inr ⟨k, by rw [← hn1.out]; exact h5, h6⟩
    -- a way that ends at its beginning begins with a guest that waits
    have HEND : Hid (∀ i : Nat, i < n1 → (wayC l0 ts1 i).2 = (i : Int) → waitN l0 ts1 i = true) := fun i hi h => by
      have hway : wayC l0 ts1 i = resC n1 (folN l0 ts1) [(i : Int)] (folN l0 ts1 i) := by
        unfold wayC
        rw [hn1.out, resC_step hi (by simp)]
        rfl
      have key : ∀ (f : Nat) (out : List Int) (x : Int), (∃ j, x = folN l0 ts1 j) → (goC n1 (folN l0 ts1) f out x).2 = (i : Int) → waitN l0 ts1 i = true := by
        intro f
        induction f with
        | zero =>
          rintro out x ⟨j, rfl⟩ h
          exact HFW j i hi h
        | succ f ih =>
          rintro out x ⟨j, rfl⟩ h
          rw [goC] at h
          split at h
          · exact ih _ _ ⟨_, rfl⟩ h
          · exact HFW j i hi h
      rw [hway] at h
      exact key _ _ _ ⟨i, rfl⟩ h
    have HWAY : Hid (∀ i, wayC l0 ts1 i = resC n1 (folN l0 ts1) [] i) := fun i => by unfold wayC; rw [hn1.out]
    have HISN : Hid (∀ i : Nat, ¬ (wayC l0 ts1 i).2 = (i : Int) → isC l0 ts1 i = false) := fun i h => by unfold isC; rw [decide_eq_false h, Bool.and_false]
    have HISY : Hid (∀ i : Nat, i < n1 → (wayC l0 ts1 i).2 = (i : Int) → isC l0 ts1 i = true) := fun i hi h => by unfold isC; rw [HEND.out i hi h, decide_eq_true h]; rfl
    have HRG := Lib.hid hrg
    have HU : Hid (∀ (W : World) (a : Option Addr) (n c n' c' : Nat), (binOp .neq 24 (.slice a n c) (.slice none n' c')).run Tryd.prog W = .ok (.bool (!a.isNone)) W) := fun W a n c n' c' => run_neq_slice_nil_any W _ _ a n c n' c' Tryd.underlying24
    clear hv h2 h3 h4 FO HC HFW hrg
    go_enter Tryd.func25, Tryd.ntmps25
    go_wp2_with (first | (go_at_call 43; refine OK.mono ?_; rintro e w1 ⟨rfl, hb1⟩) | (go_at_call 65; refine (FOI.out _ hb1).mono ?_; rintro e w2 ⟨ao, cap, rfl, hb2, ho2⟩))
    have HB2 := Lib.hid (two_worlds hb1 hb2)
    have HA2 : Hid (∀ W, Below w2.heap.size w2 W → RI W ao (folL l0 ts1 n1)) := fun W h => (rowI_RI (ns := folL l0 ts1 n1) (by unfold Hid; rw [folL_len]) ho2).below h
    clear hb1 hb2 ho2 OK FOI
    go_loopw [21] (fun iv wr => ∃ i : Nat, i ≤ n1 ∧ iv = .int .i64 (i : Int) ∧ Hid (Below w2.heap.size w2 wr) ∧ Hid (∀ j, j < i → isC l0 ts1 j = false)) (fun iv _ => n1 - (intOf iv).toNat)
    case atStart => exact ⟨0, by omega, rfl, Below.refl _ _, fun j hj => by omega⟩
    case round =>
      obtain ⟨i, hi, rfl, HBEL, HALL⟩ := hrel
      by_cases hlt : i < n1
      · have CI := circleFrom_any ao l0 ts1 n1 cap i wr (HA2.out _ HBEL.out) h8 hlt HRG.out
        have HNX : Hid (isC l0 ts1 i = false → ∀ j, j < i + 1 → isC l0 ts1 j = false) := fun h j hj => if e : j = i then (by subst e; exact h) else HALL.out j (by omega)
        have HFI := Lib.hid (fun h => HYES.out i hlt h HALL.out)
        have hk0 : (0 : Int) ≤ (i : Int) := by omega
        have hk1 : (i : Int) < (n1 : Int) := by omega
        go_wp2_with fail
        refine CI.mono ?_
        rintro e w3 ⟨hb3, out, at_, HRES, hcase⟩
        have HWI : Hid (wayC l0 ts1 i = (out, at_)) := by unfold Hid; rw [HWAY.out, HRES.out]
        have HB3 := Lib.hid (two_worlds HBEL.out hb3)
        have hun := HU.out
        rcases hcase with ⟨hne, rfl⟩ | ⟨rfl, g, cap3, c, rfl, HLEN, HOWN⟩
        · have HN := Lib.hid (HNX.out (HISN.out i (by rw [HWI.out]; exact hne)))
          clear HNX HFI CI HWI HRES hb3
          go_wp2_with fail
          go_roundw
          case rel => exact ⟨i + 1, by omega, by go_num, HB3, HN⟩
          case measure => simp [intOf]; omega
        · have HR : Hid (circOf l0 ts1 = (out, 0)) := by
            unfold Hid
            rw [HFI.out (HISY.out i hlt (by rw [HWI.out])), HWI.out]
          have HO := Lib.hid (own_lo HOWN.out (Nat.le_trans HB2.out.size HBEL.out.size))
          clear HNX HFI CI HWI HRES hb3
          go_wp2_with fail
          go_ret2
          exact givesIs_of HR.out (two_worlds HB2.out HB3.out) HLEN.out HO.out
      · have HR := Lib.hid (HNO.out (fun j hj => HALL.out j (by omega)))
        go_wp2
        go_ret2
        exact givesIs_nil HR.out (two_worlds HB2.out HBEL.out)
end Go.Proofs.YtkfeihnapcfkgaaDoor
