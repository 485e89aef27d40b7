/-
  The walks of the test of addresses: the model's l05Ok and ValidAddresses, the program's ValidAddresses and checkAddresses: 'okB' of the texts' bytes.
-/
import Derived.Test.YtpkkibnpjhlfmaaDoorAdrWord
import Derived.Shelf.Slices.Turned
import Derived.Deep.QuietTactic
namespace Go.Proofs.YtpkkibnpjhlfmaaDoor
open Go.RowKit

theorem bls_lt {ss : List ByteArray} {i : Nat} (h : i < (bls ss).length) : i < ss.length := by rwa [bls_length] at h
/-- The address i is a word of the first one's length, and no address ahead of it is the same. -/
def GoodA (g : Int) (ss : List ByteArray) (i : Nat) : Prop := wordB g.toNat ((bls ss).getD i []) = true ∧ ((bls ss).getD i []).length = ((bls ss).getD 0 []).length ∧ ∀ k, k < i → (bls ss).getD k [] ≠ (bls ss).getD i []
theorem okB_good {g : Int} {ss : List ByteArray} (h2 : 2 ≤ g) (h4 : g ≤ 4) (hl : ss.length ≤ 40) (h : ∀ i, i < ss.length → GoodA g ss i) : okB g (bls ss) = true :=
  okB_yes ⟨⟨h2, h4, by rw [bls_length]; exact hl⟩, fun i hi => h i (bls_lt hi)⟩
theorem okB_bad {g : Int} {ss : List ByteArray} (i : Nat) (hi : i < ss.length) (h : ¬ GoodA g ss i) : okB g (bls ss) = false :=
  okB_no fun h2 => h (h2.2 i (by rw [bls_length]; exact hi))
theorem okB_signs {g : Int} {ss : List ByteArray} (h : ¬ (2 ≤ g ∧ g ≤ 4)) : okB g (bls ss) = false := okB_no fun h2 => h ⟨h2.1.1, h2.1.2.1⟩
theorem okB_many {g : Int} {ss : List ByteArray} (h : 40 < ss.length) : okB g (bls ss) = false := okB_no fun h2 => by have := h2.1.2.2; rw [bls_length] at this; omega
theorem good_of {g : Int} {ss : List ByteArray} {i : Nat} {t t0 : ByteArray} (hi : i < ss.length) (e : ss[i] = t) (e0 : ss[0]'(by omega) = t0) (h1 : wordB g.toNat (bl t) = true) (h2 : t.size = t0.size) (h3 : ∀ k (hk : k < ss.length), k < i → ¬ ss[k] = t) : GoodA g ss i := by
  subst e e0
  refine ⟨by rw [bls_get _ _ hi]; exact h1, ?_, fun k hk => ?_⟩
  · rw [bls_get _ _ hi, bls_get _ 0 (by omega), bl_length, bl_length]; exact h2
  · rw [bls_get _ _ hi, bls_get _ k (by omega)]
    exact fun h => h3 k (by omega) hk (bl_inj h)
theorem not_word {g : Int} {ss : List ByteArray} {i : Nat} {t : ByteArray} (hi : i < ss.length) (e : ss[i] = t) (h1 : wordB g.toNat (bl t) = false) : ¬ GoodA g ss i := by
  subst e
  intro h
  have := h.1
  rw [bls_get _ _ hi, h1] at this
  cases this
theorem not_len {g : Int} {ss : List ByteArray} {i : Nat} {t t0 : ByteArray} (hi : i < ss.length) (e : ss[i] = t) (e0 : ss[0]'(by omega) = t0) (h2 : ¬ t.size = t0.size) : ¬ GoodA g ss i := by
  subst e e0
  intro h
  have := h.2.1
  rw [bls_get _ _ hi, bls_get _ 0 (by omega), bl_length, bl_length] at this
  exact h2 this
theorem not_new {g : Int} {ss : List ByteArray} {i k : Nat} {t : ByteArray} (hi : i < ss.length) (hk : k < i) (e : ss[i] = t) (h : ss[k]'(by omega) = t) : ¬ GoodA g ss i := by
  intro h2
  refine h2.2.2 k hk ?_
  rw [bls_get _ _ hi, bls_get _ k (by omega), e, h]

set_option maxRecDepth 100000 in
set_option maxHeartbeats 8000000 in
theorem l05Ok_any (g : Int) (a : Option Addr) (ss : List ByteArray) (n ca : Nat) (w : World) (hn : Hid (ss.length = n)) (ha : RS w a ss) (hmax : n ≤ 1048576) (hsz : Hid (∀ s ∈ ss, s.size ≤ 1048576)) :
    Calls Tryd.prog 49 #[.int .i64 g, .slice a n ca] w fun e w' => e = .returned (.bool (okB g (bls ss))) ∧ Below w.heap.size w w' := by
  by_cases hg : 2 ≤ g ∧ g ≤ 4
  · have ig : inB g 2 4 = true := inB_of hg
    by_cases hm : 40 < n
    · have HR : Hid (okB g (bls ss) = false) := okB_many (by rw [hn.out]; exact hm)
      clear ha hg
      go_enter Tryd.func49, Tryd.ntmps49
      go_wp2_with (first | (go_at_call 83; refine (l05Signs_any _ _).mono ?_; rintro e w' ⟨rfl, rfl⟩))
      go_ret
      exact ⟨ret_bool HR.out.symm, Below.refl _ _⟩
    · by_cases hz : n = 0
      · have HZ := Lib.hid hz
        clear hz
        have HR : Hid (okB g (bls ss) = true) := okB_good hg.1 hg.2 (by rw [hn.out, HZ.out]; omega) (fun i hi => by rw [hn.out, HZ.out] at hi; omega)
        clear hg
        go_enter Tryd.func49, Tryd.ntmps49
        go_wp2_with (first | (go_at_call 83; refine (l05Signs_any _ _).mono ?_; rintro e w' ⟨rfl, rfl⟩))
        go_loop [5] (fun i => ∃ k : Nat, k ≤ n ∧ i = .int .i64 k) (fun _ => 0)
        case atStart => exact ⟨0, by omega, rfl⟩
        case round =>
          obtain ⟨k, hk, rfl⟩ := hrel
          have hlt : ¬ k < n := by rw [HZ.out]; omega
          go_wp2
          go_ret
          exact ⟨ret_bool HR.out.symm, Below.refl _ _⟩
      · obtain ⟨gn, rfl⟩ : ∃ gn : Nat, g = gn := ⟨g.toNat, by omega⟩
        have HGN : Hid ((gn : Int).toNat = gn) := Int.toNat_natCast gn
        obtain ⟨b, off, rfl, hb, hc⟩ := ha.addr (by rw [hn.out]; omega)
        have HC := Lib.hid hc
        have z1 : w.cell? ⟨b, off + 0, none⟩ = some (.string (ss[0]'(by rw [hn.out]; omega))) := hc 0 (by rw [hn.out]; omega)
        clear hc ha
        obtain ⟨t0, ht0⟩ : ∃ t0, ss[0]'(by rw [hn.out]; omega) = t0 := ⟨_, rfl⟩
        have HT0 := Lib.hid ht0
        rw [ht0, Nat.add_zero] at z1
        have Z1 := Lib.hid z1
        have hs0 : t0.size ≤ 1048576 := by rw [← ht0]; exact hsz.out _ (List.getElem_mem _)
        clear z1 ht0
        go_enter Tryd.func49, Tryd.ntmps49
        go_wp2_with (first | (go_at_call 83; refine (l05Signs_any _ _).mono ?_; rintro e w' ⟨rfl, rfl⟩))
        go_loopw [5] (fun iv wr => ∃ k : Nat, k ≤ n ∧ iv = .int .i64 k ∧ Below w.heap.size w wr ∧ Hid (∀ j, j < k → GoodA gn ss j)) (fun iv _ => n - (intOf iv).toNat)
        case atStart => exact ⟨0, by omega, rfl, Below.refl _ _, fun j hj => by omega⟩
        case round =>
          obtain ⟨k, hk, rfl, hbel, HALL⟩ := hrel
          obtain ⟨wo, hwo⟩ : ∃ wo : World, wo = wr := ⟨_, rfl⟩
          subst hwo
          by_cases hlt : k < n
          · have hka : k < ss.length := by rw [hn.out]; exact hlt
            have x1 := HC.out k hka
            obtain ⟨t, ht⟩ : ∃ t, ss[k] = t := ⟨_, rfl⟩
            have HT := Lib.hid ht
            rw [ht] at x1
            have hst : t.size ≤ 1048576 := by rw [← ht]; exact hsz.out _ (List.getElem_mem _)
            clear ht
            rw [← hbel.cell (p := ⟨_, _, none⟩) hb] at x1
            have z1 := Z1.out
            rw [← hbel.cell (p := ⟨_, _, none⟩) hb] at z1
            have hbw : b < wo.heap.size := Nat.lt_of_lt_of_le hb hbel.size
            have HB := Lib.hid hbel
            have hk0 : (0 : Int) ≤ (k : Int) := by omega
            have hk1 : (k : Int) < (n : Int) := by omega
            have hn0 : (0 : Int) < (n : Int) := by omega
            have HNW : Hid (wordB gn (bl t) = false → okB gn (bls ss) = false) := fun h => okB_bad k hka (not_word hka HT.out (by rw [HGN.out]; exact h))
            have HNL : Hid (¬ t.size = t0.size → okB gn (bls ss) = false) := fun h => okB_bad k hka (not_len hka HT.out HT0.out h)
            clear hbel
            have HW := fun W => l05Word_any gn (by omega) (by omega) t hst W
            cases hw : wordB gn (bl t) with
            | false =>
              have HR := Lib.hid (HNW.out hw)
              rw [hw] at HW
              go_wp2_with fail
              go_quiet (first | (go_at_call 50; refine Calls.mono (HW _) ?_; rintro e w1 ⟨rfl, rfl⟩; exact ⟨rfl, _, rfl⟩))
              go_wp2
              go_ret
              exact ⟨ret_bool HR.out.symm, Below.drewN' HB.out _⟩
            | true =>
              rw [hw] at HW
              by_cases hl : t.size = t0.size
              · have hne : ((t.size : Int) != (t0.size : Int)) = false := by simp [hl]
                have HL := Lib.hid hl
                clear hl
                go_wp2_with fail
                go_quiet (first | (go_at_call 50; refine Calls.mono (HW _) ?_; rintro e w1 ⟨rfl, rfl⟩; exact ⟨rfl, _, rfl⟩))
                go_wp2
                have X1 := Lib.hid x1
                have HZ1 := Lib.hid z1
                clear x1 z1
                go_loopw [6] (fun iv w2 => ∃ m : Nat, m ≤ k ∧ iv = .int .i64 (m : Int) ∧ Hid (Below wo.heap.size wo w2) ∧ Hid (∀ j (hj : j < ss.length), j < m → ¬ ss[j] = t)) (fun iv _ => k - (intOf iv).toNat)
                case atStart => exact ⟨0, by omega, rfl, Below.drewN' (Below.refl _ _) _, fun j _ hj => by omega⟩
                case round =>
                  obtain ⟨m, hm', rfl, HB2, HNO⟩ := hrel
                  by_cases hlm : m < k
                  · have hma : m < ss.length := by rw [hn.out]; omega
                    have y1 := HC.out m hma
                    rw [← HB.out.cell (p := ⟨_, _, none⟩) hb, ← HB2.out.cell (p := ⟨_, _, none⟩) hbw] at y1
                    have x1 := X1.out
                    rw [← HB2.out.cell (p := ⟨_, _, none⟩) hbw] at x1
                    obtain ⟨u, hu⟩ : ∃ u, ss[m] = u := ⟨_, rfl⟩
                    have HU := Lib.hid hu
                    rw [hu] at y1
                    clear hu
                    have hm0 : (0 : Int) ≤ (m : Int) := by omega
                    have hm1 : (m : Int) < (n : Int) := by omega
                    rcases eq_waysS u t with ⟨⟨e1, e2⟩, e3⟩ | ⟨⟨e1, e2⟩, e3⟩
                    · have HR : Hid (okB gn (bls ss) = false) := okB_bad k hka (not_new hka hlm HT.out (HU.out.trans e3))
                      clear e3
                      go_wp2_with fail
                      go_quiet (fail)
                      go_wp2
                      go_ret
                      exact ⟨ret_bool HR.out.symm, Below.drewN' (two_worldsC HB.out HB2.out) _⟩
                    · have HNO2 : Hid (∀ j (hj : j < ss.length), j < m + 1 → ¬ ss[j] = t) := fun j hj hjm => if e : j = m then (by subst e; rw [HU.out]; exact e3) else HNO.out j hj (by omega)
                      clear e3
                      go_wp2_with fail
                      go_quiet (fail)
                      go_wp2
                      go_roundw
                      case rel => exact ⟨m + 1, by omega, by go_num, Below.drewN' HB2.out _, HNO2.out⟩
                      case measure => simp [intOf]; omega
                  · have hmk : m = k := by omega
                    have HG2 : Hid (∀ j, j < k + 1 → GoodA gn ss j) := fun j hj => if e : j = k then (by subst e; exact good_of hka HT.out HT0.out (by rw [HGN.out]; exact hw) HL.out (fun q hq hqk => HNO.out q hq (by omega))) else HALL.out j (by omega)
                    have HBB : Hid (Below w.heap.size w wr) := two_worldsC HB.out HB2.out
                    clear hmk
                    go_wp2
                    go_roundw
                    case rel => exact ⟨k + 1, by omega, by go_num, HBB.out, HG2.out⟩
                    case measure => simp [intOf]; omega
              · have hne : ((t.size : Int) != (t0.size : Int)) = true := by rw [bne_iff_ne]; omega
                have HR := Lib.hid (HNL.out hl)
                clear hl
                go_wp2_with fail
                go_quiet (first | (go_at_call 50; refine Calls.mono (HW _) ?_; rintro e w1 ⟨rfl, rfl⟩; exact ⟨rfl, _, rfl⟩))
                go_wp2
                go_ret
                exact ⟨ret_bool HR.out.symm, Below.drewN' HB.out _⟩
          · have HR : Hid (okB gn (bls ss) = true) := okB_good hg.1 hg.2 (by rw [hn.out]; omega) (fun i hi => HALL.out i (by rw [hn.out] at hi; omega))
            go_wp2
            go_ret
            exact ⟨ret_bool HR.out.symm, hbel⟩
  · have ig : inB g 2 4 = false := inB_no hg
    have HR : Hid (okB g (bls ss) = false) := okB_signs hg
    clear ha hg
    go_enter Tryd.func49, Tryd.ntmps49
    go_wp2_with (first | (go_at_call 83; refine (l05Signs_any _ _).mono ?_; rintro e w' ⟨rfl, rfl⟩))
    go_ret
    exact ⟨ret_bool HR.out.symm, Below.refl _ _⟩
end Go.Proofs.YtpkkibnpjhlfmaaDoor
