/-
  The walks of the decimal form: the model's l01Dec and Decimal, the program's Decimal: each hands back the numeral.
-/
import Derived.Test.YtfejgckimlgopaaDoorRows
import Derived.WalkKit
import Derived.ProofKit
import Derived.OpenShut
import Derived.Lib.Hide
import Derived.Outline
import Derived.IntWalk
import Derived.Lib.LaidTab
import Derived.Lib.AppendIntMem
import Derived.Lib.UnsafeStr
import Derived.Lib.Slices
import Derived.Laws.IdiomStrings
import Derived.OwnWalk
import Derived.BigCall
import Derived.Test.YtfejgckimlgopaaDoorShelf
import Derived.Test.YtfejgckimlgopaaDoorDecMath
namespace Go.Proofs.YtfejgckimlgopaaDoor
open Go.RowKit
theorem infoByte : (Tryd.prog.info? 5).map (fun i => (i.zero, i.size, i.bytes)) = some (some (.int .u8 0), 1, 1) := by kernel_rfl

theorem own_one (w : World) (x : Value) (e : TypeId) : (w.alloc (.cells #[x] e)).ownsRow w.heap.size e 1 (.slice (some ⟨w.heap.size, 0, none⟩) 1 1) 1 [x] :=
  ⟨rfl, .inr ⟨w.heap.size, 1, #[x], rfl, Nat.le_refl _, heap_alloc_new w _, Nat.le_refl _, by unfold maxLen; omega, rfl, rfl⟩⟩
theorem own_made0 (w : World) (e : TypeId) : (w.alloc (.cells #[] e)).ownsRow w.heap.size e 1 (.slice (some ⟨w.heap.size, 0, none⟩) 0 0) 0 [] := World.ownsRow_made w #[] 0 (Nat.le_refl _) (by unfold maxLen; omega) rfl
theorem own_low {w : World} {lo lo' e size n : Nat} {v : Value} {xs : List Value} (h : w.ownsRow lo e size v n xs) (hl : lo' ≤ lo) : w.ownsRow lo' e size v n xs := by
  refine ⟨h.1, ?_⟩
  rcases h.2 with h2 | ⟨g, cap, cur, e1, e2, e3⟩
  · exact .inl h2
  · exact .inr ⟨g, cap, cur, e1, Nat.le_trans hl e2, e3⟩
theorem own_slice {w : World} {lo e size n : Nat} {v : Value} {xs : List Value} (h : w.ownsRow lo e size v n xs) (hn : 0 < n) : ∃ g cap, v = .slice (some ⟨g, 0, none⟩) n cap := by
  rcases h.2 with ⟨_, h0⟩ | ⟨g, cap, cur, e1, _⟩
  · omega
  · exact ⟨g, cap, e1⟩
theorem bytes_one (l : List UInt8) : ∀ u ∈ Lib.byteCells l, u.oneCell' = true := by
  intro u hu
  simp [Lib.byteCells] at hu
  obtain ⟨b, _, rfl⟩ := hu
  rfl
theorem byte_of_digit (d : Nat) (h : d < 10) : Value.int .u8 ((48 + d : Nat) : Int) = Value.int .u8 (((UInt8.ofNat (48 + d)).toNat : Nat) : Int) := by
  rw [UInt8.toNat_ofNat']; congr 1; omega
theorem neg_parts {k : Int} (h : k < 0) : k.tmod 10 = -((k.natAbs % 10 : Nat) : Int) ∧ k.tdiv 10 = -((k.natAbs / 10 : Nat) : Int) := by
  obtain ⟨a, rfl⟩ : ∃ a : Nat, k = -(a : Int) := ⟨k.natAbs, by omega⟩
  rw [Int.neg_tmod, Int.neg_tdiv, Int.natAbs_neg, Int.natAbs_natCast]
  exact ⟨rfl, rfl⟩
theorem ret_str {l r : List UInt8} (h : l = r) : Ending.returned (.string ⟨l.toArray⟩) = .returned (.string ⟨r.toArray⟩) := by rw [h]
theorem ret_strB {s : ByteArray} {l r : List UInt8} (h : s = ⟨l.toArray⟩) (h' : r = l) : Ending.returned (.string s) = .returned (.string ⟨r.toArray⟩) := by rw [h, h']
theorem minus_bytes (l : List UInt8) : (⟨#[45]⟩ : ByteArray) ++ (⟨l.toArray⟩ : ByteArray) = ⟨(45 :: l).toArray⟩ := by
  apply ByteArray.ext; simp
theorem byteCells_cons' (b : UInt8) (l : List UInt8) : [Value.int .u8 (b.toNat : Int)] ++ Lib.byteCells l = Lib.byteCells (b :: l) := rfl

set_option maxRecDepth 100000 in
set_option maxHeartbeats 1000000 in
theorem l01Dec_any (n : Int) (h0 : -9223372036854775808 ≤ n) (h1 : n ≤ 9223372036854775807) (w : World) :
    Calls Tryd.prog 61 #[.int .i64 n] w fun e w' => e = .returned (.string ⟨(Lib.itoa n).toArray⟩) ∧ Below w.heap.size w w' := by
  obtain ⟨i0, hi, hz0, hz1, hz2⟩ := info_parts infoByte
  go_enter Tryd.func61, Tryd.ntmps61
  go_wp2_with fail
  go_loopw [3, 4] (fun o k wr => ∃ (kk : Int) (l : List UInt8) (g c : Nat), k = .int .i64 kk ∧ o = .slice (some ⟨g, 0, none⟩) l.length c ∧ -9223372036854775808 ≤ kk ∧ kk ≤ 9223372036854775807 ∧ Hid (wr.ownsRow w.heap.size 5 1 (.slice (some ⟨g, 0, none⟩) l.length c) l.length (Lib.byteCells l)) ∧ Hid (Below w.heap.size w wr) ∧ Hid (digs n.natAbs = digs kk.natAbs ++ l) ∧ Hid (kk.natAbs * 10 ^ l.length ≤ 9223372036854775808) ∧ Hid (l.length ≤ 19)) (fun _ k _ => (intOf k).natAbs)
  case atStart => exact ⟨n, [], _, _, rfl, rfl, h0, h1, own_made0 w _, (Below.refl _ _).alloc (Nat.le_refl _) _, (List.append_nil _).symm, by unfold Hid; simp; omega, by unfold Hid; simp⟩
  case round =>
    obtain ⟨kk, l, g, c, rfl, rfl, k0, k1, HO, HB, HD, HM, HL⟩ := hrel
    by_cases hz : kk = 0
    · subst hz
      have HE : Hid (digs n.natAbs = l) := HD.out
      clear HD HM
      have hcv := run_convert_bytes_back (P := Tryd.prog) wr 22 9 5 ⟨g, 0, none⟩ c l Tryd.underlying22 Tryd.underlying5 Tryd.underlying9 (fun j hj => HO.out.cells (g := g) rfl j _ (by simp [Lib.byteCells, hj]))
      have hadd := fun W : World => run_string_add_lists (P := Tryd.prog) W [45] l (by simp) (by have := HL.out; omega)
      by_cases hn : n = 0
      · subst hn
        have hl : l.length = 0 := by rw [← HE.out]; rfl
        go_wp2
        go_ret
        exact ⟨ret_str itoa_zero.symm, HB.out⟩
      · have hl : ¬ l.length = 0 := by have := digs_length_pos (u := n.natAbs) (by omega); rw [HE.out] at this; omega
        by_cases hneg : n < 0
        · go_wp2
          go_ret
          exact ⟨ret_str ((itoa_neg hneg).trans (congrArg (45 :: ·) HE.out)).symm, HB.out⟩
        · go_wp2
          go_ret
          exact ⟨ret_str ((itoa_pos (by omega)).trans HE.out).symm, HB.out⟩
    · have HK : Hid (l.length ≤ 18) := by
        unfold Hid
        have := HM.out
        by_cases h : l.length ≤ 18
        · exact h
        · exfalso
          have h19 : 10 ^ 19 ≤ 10 ^ l.length := Nat.pow_le_pow_right (by omega) (by omega)
          have h2 : 1 * 10 ^ 19 ≤ kk.natAbs * 10 ^ l.length := Nat.mul_le_mul (by omega) h19
          omega
      have HX : Hid (∀ (d : Nat), kk.natAbs % 10 = d → digs n.natAbs = digs (kk.natAbs / 10) ++ (UInt8.ofNat (48 + d) :: l)) := fun d hd => by
        rw [HD.out, digs_step (by omega), hd, List.append_assoc]; rfl
      have HM' : Hid (kk.natAbs / 10 * 10 ^ (l.length + 1) ≤ 9223372036854775808) := by
        unfold Hid
        have h := HM.out
        have h2 : kk.natAbs / 10 * 10 ≤ kk.natAbs := Nat.div_mul_le_self _ _
        calc kk.natAbs / 10 * 10 ^ (l.length + 1) = (kk.natAbs / 10 * 10) * 10 ^ l.length := by rw [Nat.pow_succ, Nat.mul_comm (10 ^ l.length) 10, ← Nat.mul_assoc]
          _ ≤ kk.natAbs * 10 ^ l.length := Nat.mul_le_mul_right _ h2
          _ ≤ _ := h
      obtain ⟨q, hq⟩ : ∃ q : Int, q = kk.tdiv 10 := ⟨_, rfl⟩
      have hqa : q.natAbs = kk.natAbs / 10 := by rw [hq]; exact natAbs_tdiv kk
      by_cases hneg : kk < 0
      · obtain ⟨hr, hq2⟩ := neg_parts hneg
        obtain ⟨d, hd, hd10⟩ : ∃ d : Nat, kk.natAbs % 10 = d ∧ d < 10 := ⟨_, rfl, by omega⟩
        rw [hd] at hr
        obtain ⟨qa, hqa2⟩ : ∃ qa : Nat, kk.natAbs / 10 = qa := ⟨_, rfl⟩
        rw [hqa2] at hq2
        have QA : (-(qa : Int)).natAbs = kk.natAbs / 10 := by omega
        have hqb : (qa : Int) ≤ 922337203685477580 := by omega
        have HXd := Lib.hid (HX.out d hd)
        have HB8 := Lib.hid (byte_of_digit d hd10)
        have HQ2 : Hid (qa < kk.natAbs) := by unfold Hid; omega
        clear hq hqa hqa2 hd
        go_wp2_with (at_builtin; refine wpList_append_own _ rfl _ _ 22 rfl wr.heap.size 5 i0 (.int .u8 0) 1 1 Tryd.underlying22 hi hz0 hz1 hz2 rfl (by decide) _ _ _ rfl (own_one wr _ _) ⟨g, 0, none⟩ l.length c (Lib.byteCells l) rfl (by simp [Lib.byteCells]) ((HO.out.alloc _).cells rfl) (bytes_one l) (by have := HK.out; unfold maxLen; omega) (by have := HK.out; omega) (by simp) ?_)
        all_goals
          intro v2 w2 hown2 hgrow2 hne2
          obtain ⟨g2, c2, rfl⟩ := own_slice hown2 (by omega)
          have HO2 : Hid (w2.ownsRow w.heap.size 5 1 (.slice (some ⟨g2, 0, none⟩) (UInt8.ofNat (48 + d) :: l).length c2) (UInt8.ofNat (48 + d) :: l).length (Lib.byteCells (UInt8.ofNat (48 + d) :: l))) := by
            have e : (UInt8.ofNat (48 + d) :: l).length = 1 + l.length := by simp; omega
            have e2 : Lib.byteCells (UInt8.ofNat (48 + d) :: l) = Value.int .u8 (48 + d : Int) :: Lib.byteCells l := by
              show Value.int .u8 (((UInt8.ofNat (48 + d)).toNat : Nat) : Int) :: _ = _
              rw [← HB8.out]; rfl
            rw [e, e2]
            rcases Nat.eq_zero_or_pos d with hd0 | hd0
            · subst hd0; exact own_low hown2 HB.out.size
            · exact own_low (by first | exact hown2 | (exfalso; omega)) HB.out.size
          have HB2 : Hid (Below w.heap.size w w2) := (HB.out.alloc HB.out.size _).grown hgrow2 (by have := HB.out.size; simp; omega) (fun k hk => by have := HB.out.size; simp [Value.ownBlock] at hk; omega)
          have el : (UInt8.ofNat (48 + d) :: l).length = 1 + l.length := by simp; omega
          rw [← el]
          clear hown2 hgrow2 hne2
          go_wp2
          go_roundw
          case rel => exact ⟨_, UInt8.ofNat (48 + d) :: l, g2, c2, rfl, rfl, by omega, by omega, HO2.out, HB2.out, by rw [QA]; exact HXd.out, by rw [QA, el, Nat.add_comm 1]; exact HM'.out, by unfold Hid; have := HK.out; omega⟩
          case measure => have := HQ2.out; simp [intOf]; omega
      · have hp : 0 < kk := by omega
        have hm : 0 ≤ kk % 10 := by omega
        have hm' : kk % 10 < 10 := by omega
        have hm'' : ¬ kk % 10 < 0 := by omega
        obtain ⟨d, hd, hd10⟩ : ∃ d : Nat, kk % 10 = (d : Int) ∧ d < 10 := ⟨(kk % 10).toNat, by omega, by omega⟩
        have HXd := Lib.hid (HX.out d (by omega))
        have HB8 := Lib.hid (byte_of_digit d hd10)
        have QA : (kk / 10).natAbs = kk.natAbs / 10 := by omega
        clear hq hqa
        go_wp2_with (at_builtin; refine wpList_append_own _ rfl _ _ 22 rfl wr.heap.size 5 i0 (.int .u8 0) 1 1 Tryd.underlying22 hi hz0 hz1 hz2 rfl (by decide) _ _ _ rfl (own_one wr _ _) ⟨g, 0, none⟩ l.length c (Lib.byteCells l) rfl (by simp [Lib.byteCells]) ((HO.out.alloc _).cells rfl) (bytes_one l) (by have := HK.out; unfold maxLen; omega) (by have := HK.out; omega) (by simp) ?_)
        intro v2 w2 hown2 hgrow2 hne2
        obtain ⟨g2, c2, rfl⟩ := own_slice hown2 (by omega)
        have HO2 : Hid (w2.ownsRow w.heap.size 5 1 (.slice (some ⟨g2, 0, none⟩) (UInt8.ofNat (48 + d) :: l).length c2) (UInt8.ofNat (48 + d) :: l).length (Lib.byteCells (UInt8.ofNat (48 + d) :: l))) := by
          have e : (UInt8.ofNat (48 + d) :: l).length = 1 + l.length := by simp; omega
          have e2 : Lib.byteCells (UInt8.ofNat (48 + d) :: l) = Value.int .u8 (48 + d : Int) :: Lib.byteCells l := by
            show Value.int .u8 (((UInt8.ofNat (48 + d)).toNat : Nat) : Int) :: _ = _
            rw [← HB8.out]; rfl
          rw [e, e2]
          exact own_low hown2 HB.out.size
        have HB2 : Hid (Below w.heap.size w w2) := (HB.out.alloc HB.out.size _).grown hgrow2 (by have := HB.out.size; simp; omega) (fun k hk => by have := HB.out.size; simp [Value.ownBlock] at hk; omega)
        have el : (UInt8.ofNat (48 + d) :: l).length = 1 + l.length := by simp; omega
        rw [← el]
        clear hown2 hgrow2 hne2
        go_wp2
        go_roundw
        case rel => exact ⟨_, UInt8.ofNat (48 + d) :: l, g2, c2, rfl, rfl, by omega, by omega, HO2.out, HB2.out, by rw [QA]; exact HXd.out, by rw [QA, el, Nat.add_comm 1]; exact HM'.out, by unfold Hid; have := HK.out; omega⟩
        case measure => simp [intOf]; omega

/-- The table of the powers of ten that the library's FormatInt reads: whatever is done to blocks from B on. -/
def PowTab (B : Nat) (w : World) : Prop := Lib.TabBelow Tryd.prog B w "internal/strconv.uint64pow10" .u64 Lib.pow10Tab

theorem formatInt_any (n : Int) (h0 : -9223372036854775808 ≤ n) (h1 : n ≤ 9223372036854775807) (w : World) {B : Nat} (ht : PowTab B w) :
    Calls Tryd.prog 73 #[.int .i64 n, .int .i64 10] w fun e w' => e = .returned (.string ⟨(Lib.itoa n).toArray⟩) ∧ Below w.heap.size w w' := by
  refine (Any.strconv_FormatInt_10 Tryd.lays173 n h0 h1 w ht.here).mono ?_
  rintro e w' ⟨rfl, k, os, rfl⟩
  exact ⟨rfl, Lib.below_grow _ w (Nat.le_refl _) k os⟩

theorem implDecimal_any (n : Int) (h0 : -9223372036854775808 ≤ n) (h1 : n ≤ 9223372036854775807) (w : World) {B : Nat} (ht : PowTab B w) :
    Calls Tryd.prog 60 #[.int .i64 n] w fun e w' => e = .returned (.string ⟨(Lib.itoa n).toArray⟩) ∧ Below w.heap.size w w' := by
  go_enter Tryd.func60, Tryd.ntmps60
  go_wp2_with (go_at_call 73; refine (formatInt_any n h0 h1 _ ht).mono ?_; rintro e w1 ⟨rfl, hb1⟩)
  go_ret
  exact ⟨rfl, hb1⟩
end Go.Proofs.YtfejgckimlgopaaDoor
