/-
  The walks of all words: the model's l05Whole, l05Code, l05All.
-/
import Derived.Test.YtpkkibnpjhlfmaaDoorAllWords
import Derived.Deep.RegionHeld3
import Derived.Deep.RegionLaw
namespace Go.Proofs.YtpkkibnpjhlfmaaDoor
open Go.RowKit

set_option maxRecDepth 100000 in
set_option maxHeartbeats 2000000 in
theorem l05Whole_any (g r : Int) (w : World) :
    Calls Tryd.prog 78 #[.int .i64 g, .int .i64 r] w fun e w' => e = .returned (.int .i64 (codeW g r 1 300)) ∧ w = w' := by
  by_cases h1 : 2 ≤ g ∧ g ≤ 4
  · have i1 := inY h1
    by_cases h2 : 1 ≤ r ∧ r ≤ 8
    · have i2 := inY h2
      obtain ⟨gn, rfl⟩ : ∃ gn : Nat, g = gn := ⟨g.toNat, by omega⟩
      obtain ⟨rn, rfl⟩ : ∃ rn : Nat, r = rn := ⟨r.toNat, by omega⟩
      have hg : gn ≤ 4 := by omega
      have hr : rn ≤ 8 := by omega
      have HR : Hid (codeW gn rn 1 300 = if (300 : Int) < ((gn ^ rn : Nat) : Int) then 5 else 0) := by unfold Hid codeW; rw [if_pos (by omega)]; simp
      clear h1 h2
      go_enter Tryd.func78, Tryd.ntmps78
      go_wp2_with (first | (go_at_call 83; refine (l05Signs_any _ _).mono ?_; rintro e w' ⟨rfl, rfl⟩) | (go_at_call 61; refine (l00In_any _ _ _ _).mono ?_; rintro e w' ⟨rfl, rfl⟩))
      go_loop [5, 6] (fun q i => ∃ k : Nat, k ≤ rn ∧ i = .int .i64 (k : Int) ∧ q = .int .i64 ((gn ^ k : Nat) : Int)) (fun _ i => rn - (intOf i).toNat)
      case atStart => exact ⟨0, by omega, rfl, rfl⟩
      case round =>
        obtain ⟨k, hk, rfl, rfl⟩ := hrel
        by_cases hlt : k < rn
        · have HE := Lib.hid (pow_succ_cast gn k)
          have hb1 := pow_le hg (show k + 1 ≤ 8 by omega)
          have HB1 : Hid (((gn ^ k : Nat) : Int) * (gn : Int) ≤ 65536) := by unfold Hid; rw [HE.out]; omega
          have hp0 : (0 : Int) ≤ ((gn ^ k : Nat) : Int) := by omega
          have hp1 : (0 : Int) ≤ ((gn ^ k : Nat) : Int) * (gn : Int) := Int.mul_nonneg hp0 (by omega)
          have hp2 := HB1.out
          generalize ((gn ^ k : Nat) : Int) = p at hp0 hp1 hp2 HE HB1
          clear hb1
          go_wp2
          go_round
          case rel => first | exact ⟨k + 1, by omega, by go_num, by rw [← HE.out]⟩ | exact ⟨k + 1, by omega, by go_num, by rw [← HE.out], rfl⟩
          case measure => simp [intOf]; omega
        · have hkr : k = rn := by omega
          subst hkr
          by_cases hf : (300 : Int) < ((gn ^ k : Nat) : Int)
          · have HR2 : Hid (codeW gn k 1 300 = 5) := by unfold Hid; rw [HR.out, if_pos hf]
            generalize ((gn ^ k : Nat) : Int) = p at hf
            go_wp2
            go_ret
            exact ⟨ret_int HR2.out.symm, rfl⟩
          · have HR2 : Hid (codeW gn k 1 300 = 0) := by unfold Hid; rw [HR.out, if_neg hf]
            generalize ((gn ^ k : Nat) : Int) = p at hf
            go_wp2
            go_ret
            exact ⟨ret_int HR2.out.symm, rfl⟩
    · have i2 := inN h2
      have HR := Lib.hid (codeW_range (most := 300) (show ¬ (2 ≤ g ∧ g ≤ 4 ∧ 1 ≤ r ∧ r ≤ 8 ∧ 1 ≤ (1 : Int) ∧ 1 ≤ r) by omega))
      clear h1 h2
      go_enter Tryd.func78, Tryd.ntmps78
      go_wp2_with (first | (go_at_call 83; refine (l05Signs_any _ _).mono ?_; rintro e w' ⟨rfl, rfl⟩) | (go_at_call 61; refine (l00In_any _ _ _ _).mono ?_; rintro e w' ⟨rfl, rfl⟩))
      go_ret
      exact ⟨ret_int HR.out.symm, rfl⟩
  · have i1 := inN h1
    have HR := Lib.hid (codeW_range (most := 300) (show ¬ (2 ≤ g ∧ g ≤ 4 ∧ 1 ≤ r ∧ r ≤ 8 ∧ 1 ≤ (1 : Int) ∧ 1 ≤ r) by omega))
    clear h1
    go_enter Tryd.func78, Tryd.ntmps78
    go_wp2_with (first | (go_at_call 83; refine (l05Signs_any _ _).mono ?_; rintro e w' ⟨rfl, rfl⟩) | (go_at_call 61; refine (l00In_any _ _ _ _).mono ?_; rintro e w' ⟨rfl, rfl⟩))
    go_ret
    exact ⟨ret_int HR.out.symm, rfl⟩

/-- A byte that the call lays, as a text. -/
theorem byte_text (h : Nat) (x : Int) (bd : UInt8) (hb : Value.int .u8 x = Value.int .u8 (bd.toNat : Int)) (W : World) (hc : W.cell? ⟨h, 0, none⟩ = some (.int .u8 x)) :
    (convert 22 9 (.slice (some ⟨h, 0, none⟩) 1 1)).run Tryd.prog W = .ok (.string ⟨[bd].toArray⟩) W :=
  run_convert_bytes_back (P := Tryd.prog) W 22 9 5 ⟨h, 0, none⟩ 1 [bd] Tryd.underlying22 Tryd.underlying5 Tryd.underlying9 (fun j hj => by
    have : j = 0 := by simp at hj; omega
    subst this
    rw [show (⟨h, 0, none⟩ : Addr).add 0 = ⟨h, 0, none⟩ by simp [Addr.add], hc, hb]; rfl)
theorem letter_byte {c : Nat} (h : c < 4) : Value.int .u8 (IntKind.u8.wrap (IntKind.i64.wrap ((97 : Int) + (c : Int)))) = Value.int .u8 (((UInt8.ofNat (97 + c)).toNat : Nat) : Int) := by
  have : c = 0 ∨ c = 1 ∨ c = 2 ∨ c = 3 := by omega
  rcases this with rfl | rfl | rfl | rfl <;> exact congrArg (Value.int .u8) (by decide +kernel)

set_option maxRecDepth 100000 in
set_option maxHeartbeats 8000000 in
theorem l05All_any (g r : Nat) (hg2 : 2 ≤ g) (hg4 : g ≤ 4) (hr : r ≤ 8) (hlen : g ^ r ≤ 300) (w : World) :
    Calls Tryd.prog 72 #[.int .i64 (g : Int), .int .i64 (r : Int)] w (GivesO (bas (allW g r)) (g ^ r) w) := by
  have HI : Hid (∃ i0 : TypeInfo, Tryd.prog.info? 9 = some i0 ∧ i0.zero = some (.string ByteArray.empty) ∧ i0.size = 1 ∧ i0.bytes = 16) := info_parts info9
  have HLEN := Lib.hid hlen
  clear hlen
  go_enter Tryd.func72, Tryd.ntmps72
  go_wp2
  go_loopw [5, 6] (fun o kv wr => ∃ k b c : Nat, k ≤ r ∧ kv = .int .i64 (k : Int) ∧ o = .slice (some ⟨b, 0, none⟩) (g ^ k) c ∧ Hid (Below w.heap.size w wr) ∧ Hid (wr.ownsRow w.heap.size 9 1 (.slice (some ⟨b, 0, none⟩) (g ^ k) c) (g ^ k) ((bas (allW g k)).map Value.string))) (fun _ kv _ => r - (intOf kv).toNat)
  case atStart =>
    refine ⟨0, _, _, by omega, rfl, rfl, (by repeat (first | exact Below.refl _ _ | refine Below.alloc ?_ (by simp; try omega) _ | refine Below.setCell ?_ (by simp; try omega) _)), ?_⟩
    have h0 : (bas (allW g 0)).map Value.string = [Value.string ⟨#[]⟩] := rfl
    rw [h0]
    exact ⟨rfl, .inr ⟨_, 1, #[Value.string ⟨#[]⟩], rfl, by simp, heap_at_new _ _ _ (by simp), by simp, by unfold maxLen; omega, rfl, rfl⟩⟩
  case round =>
    obtain ⟨k, b, co, hk, rfl, rfl, HB, HO⟩ := hrel
    obtain ⟨wo, hwo⟩ : ∃ wo : World, wo = wr := ⟨_, rfl⟩
    subst hwo
    by_cases hlt : k < r
    · have HN : Hid ((allW g k).length = g ^ k) := allW_length hg4 k
      have HNX : Hid (g ^ k * g ≤ 300) := by
        unfold Hid
        rw [← Nat.pow_succ]
        exact Nat.le_trans (pow_mono (by omega) (by omega)) HLEN.out
      have HNE : Hid (g ^ (k + 1) = g ^ k * g) := Nat.pow_succ g k
      have HRS : Hid (RS wo (some ⟨b, 0, none⟩) (bas (allW g k))) := rowS_RS (by rw [bas_length]; exact HN) HO.out
      generalize hgk : g ^ k = n at HN HNX HNE HO ⊢
      clear hgk
      have hn300 : n ≤ 300 := by have := HNX.out; have : n * 1 ≤ n * g := Nat.mul_le_mul_left n (by omega); omega
      go_wp2
      go_loopw [7, 8] (fun q iv w2 => ∃ (i : Nat) (ao : Option Addr) (cq : Nat), i ≤ n ∧ iv = .int .i64 (i : Int) ∧ q = .slice ao (i * g) cq ∧ Hid (Below wo.heap.size wo w2) ∧ Hid (w2.ownsRow wo.heap.size 9 1 (.slice ao (i * g) cq) (i * g) ((bas (partW g k i 0)).map Value.string))) (fun _ iv _ => n - (intOf iv).toNat)
      case atStart => exact ⟨0, _, _, by omega, rfl, by simp; exact ⟨rfl, rfl⟩, (Below.refl _ _).alloc (Nat.le_refl _) _, by unfold Hid; rw [partW_zero]; simpa using World.ownsRow_made wo #[] 0 (Nat.le_refl _) (by unfold maxLen; omega) rfl⟩
      case round =>
        obtain ⟨i, ao, cq, hi, rfl, rfl, HB2, HO2⟩ := hrel
        by_cases hlti : i < n
        · have hil : i < (allW g k).length := by rw [HN.out]; exact hlti
          have x1 : wo.cell? ⟨b, 0 + i, none⟩ = some (.string ⟨((allW g k).getD i []).toArray⟩) := by
            obtain ⟨b', off', e1, _, h2⟩ := HRS.out.addr (by rw [bas_length]; omega)
            injection e1 with e1
            injection e1 with e1 e2 _
            subst e1 e2
            rw [h2 i (by rw [bas_length]; exact hil), bas_get _ _ hil]
          have HL8 : Hid (((allW g k).getD i []).length = k) := allW_each k _ (by rw [List.getD_eq_getElem?_getD, List.getElem?_eq_getElem hil]; exact List.getElem_mem _)
          have HROW := fun c (hc : c < g) => Lib.hid (part_row (g := g) (k := k) (i := i) hg4 hc)
          have HEND : Hid (partW g k i g = partW g k (i + 1) 0) := partW_row hg4 hil
          have hblt : b < wo.heap.size := World.block_lt_of_cell? wo _ x1
          generalize (allW g k).getD i [] = l at x1 HL8 HROW
          rw [Nat.zero_add] at x1
          have X1 := Lib.hid x1
          clear x1
          have hk0 : (0 : Int) ≤ (i : Int) := by omega
          have hk1 : (i : Int) < (n : Int) := by omega
          have hin : i * g + g ≤ 300 := by
            have h1 : (i + 1) * g ≤ n * g := Nat.mul_le_mul_right g hlti
            have := HNX.out
            rw [Nat.succ_mul] at h1
            omega
          have HIN := Lib.hid hin
          clear hin
          go_wp2
          go_loopw [7, 9] (fun q cv w3 => ∃ (c : Nat) (ao : Option Addr) (cq : Nat), c ≤ g ∧ cv = .int .i64 (c : Int) ∧ q = .slice ao (i * g + c) cq ∧ Hid (Below wo.heap.size wo w3) ∧ Hid (w3.ownsRow wo.heap.size 9 1 (.slice ao (i * g + c) cq) (i * g + c) ((bas (partW g k i c)).map Value.string))) (fun _ cv _ => g - (intOf cv).toNat)
          case atStart => exact ⟨0, ao, cq, by omega, rfl, rfl, HB2.out, HO2.out⟩
          case round =>
            obtain ⟨c, ap, cp, hc, rfl, rfl, HB3, HO3⟩ := hrel
            by_cases hltc : c < g
            · have HRW := HROW c hltc
              have hlb := letter_byte (c := c) (by omega)
              generalize UInt8.ofNat (97 + c) = bd at hlb HRW
              have hcv := byte_text wr.heap.size (IntKind.u8.wrap (IntKind.i64.wrap (97 + (c : Int)))) bd hlb ((wr.alloc (.cells #[.int .u8 (IntKind.u8.wrap (IntKind.i64.wrap (97 + (c : Int))))] 5)).drew) (by simp [go_sem])
              have hadd := fun W : World => run_string_add_lists (P := Tryd.prog) W l [bd] (by rw [HL8.out]; omega) (by simp)
              have x1 : wr.cell? ⟨b, i, none⟩ = some (.string ⟨l.toArray⟩) := (HB3.out.cell (p := ⟨b, i, none⟩) hblt).trans X1.out
              have hbw : b < wr.heap.size := Nat.lt_of_lt_of_le hblt HB3.out.size
              have hi9 : i * g + c ≤ 300 := by have := HIN.out; omega
              generalize hpq : i * g + c = pq at HO3 hi9
              have HPQ := Lib.hid hpq
              generalize (bas (partW g k i c)).map Value.string = xs at HO3 HRW
              have HGE : Hid (∀ q, (Value.slice ap pq cp).ownBlock = some q → wo.heap.size ≤ q) := fun q hq => (HO3.out.lt q hq).1
              have HNB : Hid ((Value.slice ap pq cp).ownBlock ≠ some b) := fun e => by have := HGE.out b e; omega
              clear hpq hlb
              go_wp2_with fail
              go_region_law (first | (refine step_append_lies _ (by rfl) _ _ 24 (by rfl) wo.heap.size 9 HI.out.choose (.string ByteArray.empty) 1 16 Tryd.underlying24 HI.out.choose_spec.1 HI.out.choose_spec.2.1 HI.out.choose_spec.2.2.1 HI.out.choose_spec.2.2.2 rfl (by decide) (.slice ap pq cp) pq xs (by rfl) ((HO3.out.alloc _).alloc _) _ 1 1 [.string ⟨(l ++ [bd]).toArray⟩] (by rfl) rfl ?_ (strs_one _) (by omega) (by unfold maxLen; omega) (by omega) ?_ _ rfl ?_; (focus (intro j u hj; match j, hj with | 0, hj => (simp at hj; subst hj; simp [Addr.add, go_sem]))); (focus (simp; have := HB3.out.size; omega)); intro g' cap' w5 hown1 hgrow hat hlt2))
              all_goals
                have B5 : Hid (Below wo.heap.size wo w5) := (two_worlds' HB3.out (show Below wr.heap.size wr _ from (by (repeat (first | exact Below.refl _ _ | refine Below.drew ?_ | refine Below.drewN' ?_ _ | refine Below.alloc ?_ (by first | (simp; done) | (simp; omega)) _ | refine Below.setCell ?_ (by first | (simp; done) | (simp; omega)) _)); done))).grown hgrow (by have := HB3.out.size; simp; omega) HGE.out
                have O5 : Hid (w5.ownsRow wo.heap.size 9 1 (.slice (some ⟨g', 0, none⟩) (pq + 1) cap') (pq + 1) ((bas (partW g k i (c + 1))).map Value.string)) := by
                  unfold Hid; rw [← HRW.out]; exact hown1
                clear hown1 hgrow hat hlt2 hadd hcv
                go_wp2
                go_roundw
                case rel => exact ⟨c + 1, _, cap', by omega, by go_num, by rw [← HPQ.out]; rfl, B5.out, by have e : i * g + (c + 1) = pq + 1 := (by have := HPQ.out; omega); unfold Hid; rw [e]; exact O5.out⟩
                case measure => simp [intOf]; omega
            · have hcg : c = g := by omega
              subst hcg
              have e1 : i * c + c = (i + 1) * c := by rw [Nat.succ_mul]
              have O3 : Hid (wr.ownsRow wo.heap.size 9 1 (.slice ap ((i + 1) * c) cp) ((i + 1) * c) ((bas (partW c k (i + 1) 0)).map Value.string)) := by
                unfold Hid; rw [← e1, ← HEND.out]; exact HO3.out
              rw [e1]
              clear e1
              go_wp2
              go_roundw
              case rel => exact ⟨i + 1, ap, cp, by omega, by go_num, rfl, HB3.out, O3.out⟩
              case measure => simp [intOf]; omega
        · have hin : i = n := by omega
          subst hin
          have O2 : Hid (wr.ownsRow wo.heap.size 9 1 (.slice ao (i * g) cq) (i * g) ((bas (allW g (k + 1))).map Value.string)) := by
            unfold Hid; rw [← partW_end g k i HN.out]; exact HO2.out
          obtain ⟨b', cap', hb', hlo', hlt'⟩ := O2.out.form (Nat.mul_pos (by have := HN.out; rw [allW_length hg4] at this; rw [← this]; exact Nat.pow_pos (by omega)) (by omega))
          injection hb' with e1 e2 e3
          subst e1 e3
          have B2 : Hid (Below w.heap.size w wr) := two_worlds' HB.out HB2.out
          have O2' : Hid (wr.ownsRow w.heap.size 9 1 (.slice (some ⟨b', 0, none⟩) (g ^ (k + 1)) cq) (g ^ (k + 1)) ((bas (allW g (k + 1))).map Value.string)) := by
            unfold Hid; rw [HNE.out]; exact own_lower O2.out HB.out.size
          have HEQ : Hid (Value.slice (some ⟨b', 0, none⟩) (i * g) cq = .slice (some ⟨b', 0, none⟩) (g ^ (k + 1)) cq) := by unfold Hid; rw [HNE.out]
          clear e2
          go_wp2
          go_roundw
          case rel => exact ⟨k + 1, b', cq, by omega, by go_num, HEQ.out, B2.out, O2'.out⟩
          case measure => simp [intOf]; omega
    · have hkr : k = r := by omega
      subst hkr
      have HF : Hid (GivesO (bas (allW g k)) (g ^ k) w (.returned (.slice (some ⟨b, 0, none⟩) (g ^ k) co)) wo) := ⟨b, co, rfl, HB.out, HO.out⟩
      go_wp2
      go_ret
      exact HF.out
end Go.Proofs.YtpkkibnpjhlfmaaDoor
