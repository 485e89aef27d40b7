/-
  The walk of all words: the program's words.
-/
import Derived.Test.YtpkkibnpjhlfmaaDoorAllImpl
namespace Go.Proofs.YtpkkibnpjhlfmaaDoor
open Go.RowKit

theorem own_not_iter {w : World} {lo n k : Nat} {e : TypeId} {size : Nat} {v : Value} {xs : List Value} {s : ByteArray} {p : Nat} (h : w.ownsRow lo e size v n xs) (hb : w.heap[k]? = some (.stringIter s p)) : v.ownBlock ≠ some k := by
  intro hv
  rcases h.2 with ⟨rfl, _⟩ | ⟨g, cap, cur, rfl, _, hg, _⟩
  · simp [Value.ownBlock] at hv
  · have : g = k := by simp [Value.ownBlock] at hv; omega
    subst this
    rw [hg] at hb
    cases hb
theorem own_iterAt {w : World} {lo n k : Nat} {e : TypeId} {size : Nat} {v : Value} {xs : List Value} {s : ByteArray} {p : Nat} (h : w.ownsRow lo e size v n xs) (hb : w.heap[k]? = some (.stringIter s p)) (q : Nat) : (w.iterAt k s q).ownsRow lo e size v n xs :=
  h.kept (row := some k) ⟨rfl, rfl, rfl, by rw [Lib.iterAt_size]; exact Nat.le_refl _, fun i _ hne => Lib.iterAt_other w k i s q (fun e => hne (by rw [e]))⟩ (.inr (own_not_iter h hb))
theorem heap_at_new (w : World) (o : Obj) (g : Nat) (h : g = w.heap.size) : (w.alloc o).heap[g]? = some o := by subst h; exact heap_alloc_new w o
theorem two_worlds' {a b c : World} (h : Below a.heap.size a b) (k : Below b.heap.size b c) : Below a.heap.size a c := h.trans (k.mono h.size)
theorem heap_alloc_old (w : World) (o : Obj) (i : Nat) (h : i < w.heap.size) : (w.alloc o).heap[i]? = w.heap[i]? := Below.heap_alloc w o i h
theorem news_oneS (w : World) (x : Value) (e : TypeId) : ∀ j u, [x][j]? = some u → (w.alloc (.cells #[x] e)).cell? ((⟨w.heap.size, 0, none⟩ : Addr).add j) = some u := by
  intro j u hj
  match j, hj with
  | 0, hj => simp at hj; subst hj; simp [Addr.add, go_sem]
theorem enc_letter {c : Nat} (h : c < 4) : Utf8.encode (((97 + c : Nat) : Nat) : Int) = ⟨[UInt8.ofNat (97 + c)].toArray⟩ := by
  have : c = 0 ∨ c = 1 ∨ c = 2 ∨ c = 3 := by omega
  rcases this with rfl | rfl | rfl | rfl <;> decide +kernel
/-- The letters of g signs as a text. -/
theorem letters_text {g : Nat} (h2 : 2 ≤ g) (h4 : g ≤ 4) : ∃ ls : ByteArray, (⟨#[97, 98, 99, 100]⟩ : ByteArray).extract 0 g = ls ∧ ls.size = g ∧ ∀ c (hc : c < ls.size), (ls[c]).toNat = 97 + c := by
  have : g = 2 ∨ g = 3 ∨ g = 4 := by omega
  rcases this with rfl | rfl | rfl
  · refine ⟨⟨#[97, 98]⟩, by decide +kernel, rfl, fun c hc => ?_⟩
    have : c = 0 ∨ c = 1 := by have : c < 2 := hc; omega
    rcases this with rfl | rfl <;> rfl
  · refine ⟨⟨#[97, 98, 99]⟩, by decide +kernel, rfl, fun c hc => ?_⟩
    have : c = 0 ∨ c = 1 ∨ c = 2 := by have : c < 3 := hc; omega
    rcases this with rfl | rfl | rfl <;> rfl
  · refine ⟨⟨#[97, 98, 99, 100]⟩, by decide +kernel, rfl, fun c hc => ?_⟩
    have : c = 0 ∨ c = 1 ∨ c = 2 ∨ c = 3 := by have : c < 4 := hc; omega
    rcases this with rfl | rfl | rfl | rfl <;> rfl
/-- A call hands back a slice of its own that holds these texts (there is one at least). -/
def GivesO (ss : List ByteArray) (n : Nat) (w : World) (e : Ending) (w' : World) : Prop :=
  ∃ g cap, e = .returned (.slice (some ⟨g, 0, none⟩) n cap) ∧ Below w.heap.size w w' ∧ w'.ownsRow w.heap.size 9 1 (.slice (some ⟨g, 0, none⟩) n cap) n (ss.map Value.string)
theorem own_lower {w : World} {lo lo' n : Nat} {e : TypeId} {size : Nat} {v : Value} {xs : List Value} (h : w.ownsRow lo e size v n xs) (hl : lo' ≤ lo) : w.ownsRow lo' e size v n xs := own_lo h hl
theorem strs_one (l : List UInt8) : ∀ u ∈ [Value.string ⟨l.toArray⟩], u.oneCell' = true := by intro u hu; simp at hu; subst hu; rfl
/-- The row of the words that were gathered, one longer. -/
theorem part_row {g k i c : Nat} (hg : g ≤ 4) (hc : c < g) : (bas (partW g k i c)).map Value.string ++ [Value.string ⟨((allW g k).getD i [] ++ [UInt8.ofNat (97 + c)]).toArray⟩] = (bas (partW g k i (c + 1))).map Value.string := by
  rw [partW_next hg hc]; simp [bas]

set_option maxRecDepth 100000 in
set_option maxHeartbeats 8000000 in
theorem words_any (g r : Nat) (hg2 : 2 ≤ g) (hg4 : g ≤ 4) (hr : r ≤ 8) (hlen : g ^ r ≤ 300) (w : World) :
    Calls Tryd.prog 69 #[.agg #[.int .i64 (g : Int), .int .i64 (r : Int)]] w (GivesO (bas (allW g r)) (g ^ r) w) := by
  have HI : Hid (∃ i0 : TypeInfo, Tryd.prog.info? 9 = some i0 ∧ i0.zero = some (.string ByteArray.empty) ∧ i0.size = 1 ∧ i0.bytes = 16) := info_parts info9
  obtain ⟨ls, hls, hlz, hlc⟩ := letters_text hg2 hg4
  have HLC := Lib.hid hlc
  have HLEN := Lib.hid hlen
  clear hlc hlen
  go_enter Tryd.func69, Tryd.ntmps69
  go_wp2
  go_loopw [3, 12] (fun o kv wr => ∃ k b c : Nat, k ≤ r ∧ kv = .int .i64 (k : Int) ∧ o = .slice (some ⟨b, 0, none⟩) (g ^ k) c ∧ Hid (Below w.heap.size w wr) ∧ Hid (w.heap.size < wr.heap.size ∧ wr.cell? ⟨w.heap.size, 0, none⟩ = some (.int .i64 (g : Int))) ∧ Hid (wr.ownsRow (w.heap.size + 1) 9 1 (.slice (some ⟨b, 0, none⟩) (g ^ k) c) (g ^ k) ((bas (allW g k)).map Value.string))) (fun _ kv _ => r - (intOf kv).toNat)
  case atStart =>
    refine ⟨0, _, _, by omega, rfl, rfl, (by repeat (first | exact Below.refl _ _ | refine Below.alloc ?_ (by simp; try omega) _ | refine Below.setCell ?_ (by simp; try omega) _)), ⟨by simp; omega, by simp [go_sem]⟩, ?_⟩
    have h0 : (bas (allW g 0)).map Value.string = [Value.string ⟨#[]⟩] := rfl
    rw [h0]
    exact ⟨rfl, .inr ⟨_, 1, #[Value.string ⟨#[]⟩], rfl, by simp, heap_at_new _ _ _ (by simp), by simp, by unfold maxLen; omega, rfl, rfl⟩⟩
  case round =>
    obtain ⟨k, b, co, hk, rfl, rfl, HB, HBX, HO⟩ := hrel
    obtain ⟨wo, hwo⟩ : ∃ wo : World, wo = wr := ⟨_, rfl⟩
    subst hwo
    by_cases hlt : k < r
    · have HN : Hid ((allW g k).length = g ^ k) := allW_length hg4 k
      have HNX : Hid (g ^ k * g ≤ 300) := by
        unfold Hid
        rw [← Nat.pow_succ]
        exact Nat.le_trans (pow_mono (by omega) (by omega)) HLEN.out
      have HNE : Hid (g ^ (k + 1) = g ^ k * g) := Nat.pow_succ g k
      have HRS : Hid (RS wo (some ⟨b, 0, none⟩) (bas (allW g k))) := rowS_RS (by rw [bas_length]; exact HN) HO.out
      generalize hgk : g ^ k = n at HN HNX HNE HO ⊢
      clear hgk
      have hn300 : n ≤ 300 := by have := HNX.out; have : n * 1 ≤ n * g := Nat.mul_le_mul_left n (by omega); omega
      go_wp2
      go_loopw [4, 16] (fun q iv w2 => ∃ (i : Nat) (ao : Option Addr) (cq : Nat), i ≤ n ∧ iv = .int .i64 (i : Int) ∧ q = .slice ao (i * g) cq ∧ Hid (Below wo.heap.size wo w2) ∧ Hid (w2.ownsRow wo.heap.size 9 1 (.slice ao (i * g) cq) (i * g) ((bas (partW g k i 0)).map Value.string))) (fun _ iv _ => n - (intOf iv).toNat)
      case atStart => exact ⟨0, none, 0, by omega, rfl, by simp, Below.refl _ _, by unfold Hid; rw [partW_zero]; simpa using World.ownsRow_nil wo wo.heap.size 9 1⟩
      case round =>
        obtain ⟨i, ao, cq, hi, rfl, rfl, HB2, HO2⟩ := hrel
        by_cases hlti : i < n
        · have hil : i < (allW g k).length := by rw [HN.out]; exact hlti
          have x1 : wo.cell? ⟨b, 0 + i, none⟩ = some (.string ⟨((allW g k).getD i []).toArray⟩) := by
            obtain ⟨b', off', e1, _, h2⟩ := HRS.out.addr (by rw [bas_length]; omega)
            injection e1 with e1
            injection e1 with e1 e2 _
            subst e1 e2
            rw [h2 i (by rw [bas_length]; exact hil), bas_get _ _ hil]
          have HL8 : Hid (((allW g k).getD i []).length = k) := allW_each k _ (by rw [List.getD_eq_getElem?_getD, List.getElem?_eq_getElem hil]; exact List.getElem_mem _)
          have HROW := fun c (hc : c < g) => Lib.hid (part_row (g := g) (k := k) (i := i) hg4 hc)
          have HEND : Hid (partW g k i g = partW g k (i + 1) 0) := partW_row hg4 hil
          have hblt : b < wo.heap.size := World.block_lt_of_cell? wo _ x1
          generalize (allW g k).getD i [] = l at x1 HL8 HROW
          rw [← HB2.out.cell (p := ⟨b, 0 + i, none⟩) hblt] at x1
          rw [Nat.zero_add] at x1
          have y1 := HBX.out.2
          rw [← HB2.out.cell (p := ⟨w.heap.size, 0, none⟩) HBX.out.1] at y1
          have hk0 : (0 : Int) ≤ (i : Int) := by omega
          have hk1 : (i : Int) < (n : Int) := by omega
          have hin : i * g + g ≤ 300 := by
            have h1 : (i + 1) * g ≤ n * g := Nat.mul_le_mul_right g hlti
            have := HNX.out
            rw [Nat.succ_mul] at h1
            omega
          have HIN := Lib.hid hin
          clear hin
          go_wp2
          obtain ⟨wm, hwm⟩ : ∃ wm : World, wm = wr := ⟨_, rfl⟩
          subst hwm
          go_loopw [4] (fun q w3 => ∃ (c : Nat) (ao : Option Addr) (cq : Nat), c ≤ g ∧ q = .slice ao (i * g + c) cq ∧ Hid (w3.heap[wm.heap.size]? = some (.stringIter ls c)) ∧ Hid (Below wo.heap.size wo w3) ∧ Hid (w3.ownsRow wo.heap.size 9 1 (.slice ao (i * g + c) cq) (i * g + c) ((bas (partW g k i c)).map Value.string))) (fun _ w3 => g - w3.iterPos wm.heap.size)
          case atStart => exact ⟨0, ao, cq, by omega, rfl, World.iter_heap wm ls 0, HB2.out.alloc HB2.out.size _, HO2.out.alloc _⟩
          case round =>
            obtain ⟨c, ap, cp, hc, rfl, HIT, HB3, HO3⟩ := hrel
            by_cases hltc : c < g
            · have hnx := fun ty => Lib.run_next_ascii_at (P := Tryd.prog) wr wm.heap.size ls c ty HIT.out (by omega) (by rw [HLC.out c (by omega)]; omega)
              have hch : (ls[c]'(by omega)).toNat = 97 + c := HLC.out c (by omega)
              have henc := enc_letter (c := c) (by omega)
              have HRW := HROW c hltc
              have HP1 : Hid (wr.iterPos wm.heap.size = c) := by unfold Hid World.iterPos; rw [HIT.out]
              rw [hch] at hnx
              generalize UInt8.ofNat (97 + c) = bd at henc HRW
              have ec : ((97 + c : Nat) : Int) = 97 + (c : Int) := by omega
              rw [ec] at henc hnx
              have hadd := fun W : World => run_string_add_lists (P := Tryd.prog) W l [bd] (by rw [HL8.out]; omega) (by simp)
              have HB3' : Hid (Below wo.heap.size wo (wr.iterAt wm.heap.size ls (c + 1))) := Lib.below_iterAt HB3.out (HB2.out.size) ls (c + 1)
              have HIT' : Hid ((wr.iterAt wm.heap.size ls (c + 1)).heap[wm.heap.size]? = some (.stringIter ls (c + 1))) := Lib.iterAt_heap wr _ ls c (c + 1) HIT.out
              have HO3' : Hid ((wr.iterAt wm.heap.size ls (c + 1)).ownsRow wo.heap.size 9 1 (.slice ap (i * g + c) cp) (i * g + c) ((bas (partW g k i c)).map Value.string)) := own_iterAt HO3.out HIT.out (c + 1)
              clear hch ec
              generalize wr.iterAt wm.heap.size ls (c + 1) = w4 at hnx HB3' HIT' HO3'
              have hi9 : i * g + c ≤ 300 := by have := HIN.out; omega
              generalize hpq : i * g + c = pq at HO3' hi9
              have HPQ := Lib.hid hpq
              generalize (bas (partW g k i c)).map Value.string = xs at HO3' HRW
              have HGE : Hid (∀ q, (Value.slice ap pq cp).ownBlock = some q → wo.heap.size ≤ q) := fun q hq => (HO3'.out.lt q hq).1
              have HNI : Hid ((Value.slice ap pq cp).ownBlock ≠ some wm.heap.size) := own_not_iter HO3'.out HIT'.out
              clear hpq
              go_wp2_with (at_builtin; refine wpList_append_lies _ rfl _ _ 24 rfl wo.heap.size 9 HI.out.choose (.string ByteArray.empty) 1 16 Tryd.underlying24 HI.out.choose_spec.1 HI.out.choose_spec.2.1 HI.out.choose_spec.2.2.1 HI.out.choose_spec.2.2.2 rfl (by decide) (.slice ap pq cp) pq xs rfl (HO3'.out.alloc _) ⟨w4.heap.size, 0, none⟩ 1 1 [.string ⟨(l ++ [bd]).toArray⟩] rfl rfl (news_oneS _ _ _) (strs_one _) (by omega) (by unfold maxLen; omega) (by omega) (by simp; have := HB3'.out.size; omega) _ rfl ?_)
              intro g' cap' w5 hown1 hgrow hat hlt2
              have B5 : Hid (Below wo.heap.size wo w5) := (HB3'.out.alloc HB3'.out.size _).grown hgrow (by have := HB3'.out.size; simp; omega) HGE.out
              have hm4 : wm.heap.size < w4.heap.size := (Array.getElem?_eq_some_iff.1 HIT'.out).1
              have HI5 : Hid (w5.heap[wm.heap.size]? = some (.stringIter ls (c + 1))) := (hgrow.block wm.heap.size (by simp; omega) (fun e => HNI.out e.symm)).trans ((heap_alloc_old w4 _ wm.heap.size hm4).trans HIT'.out)
              have O5 : Hid (w5.ownsRow wo.heap.size 9 1 (.slice (some ⟨g', 0, none⟩) (pq + 1) cap') (pq + 1) ((bas (partW g k i (c + 1))).map Value.string)) := by
                unfold Hid; rw [← HRW.out]; exact hown1
              have HM5 : Hid (w5.iterPos wm.heap.size = c + 1) := by unfold Hid World.iterPos; rw [HI5.out]
              clear hown1 hgrow hat hlt2 hnx hadd
              go_wp2
              go_roundw
              case rel => exact ⟨c + 1, _, cap', by omega, by rw [← HPQ.out]; rfl, HI5.out, B5.out, by have e : i * g + (c + 1) = pq + 1 := (by have := HPQ.out; omega); unfold Hid; rw [e]; exact O5.out⟩
              case measure => have := HM5.out; have := HP1.out; omega
            · have hcg : c = g := by omega
              subst hcg
              have hnx := fun ty => Lib.run_next_end_at (P := Tryd.prog) wr wm.heap.size ls c ty HIT.out (by omega)
              have e1 : i * c + c = (i + 1) * c := by rw [Nat.succ_mul]
              have O3 : Hid (wr.ownsRow wo.heap.size 9 1 (.slice ap ((i + 1) * c) cp) ((i + 1) * c) ((bas (partW c k (i + 1) 0)).map Value.string)) := by
                unfold Hid; rw [← e1, ← HEND.out]; exact HO3.out
              rw [e1]
              clear e1
              go_wp2
              go_roundw
              case rel => exact ⟨i + 1, ap, cp, by omega, by go_num, rfl, HB3.out, O3.out⟩
              case measure => simp [intOf]; omega
        · have hin : i = n := by omega
          subst hin
          have O2 : Hid (wr.ownsRow wo.heap.size 9 1 (.slice ao (i * g) cq) (i * g) ((bas (allW g (k + 1))).map Value.string)) := by
            unfold Hid; rw [← partW_end g k i HN.out]; exact HO2.out
          obtain ⟨b', cap', hb', hlo', hlt'⟩ := O2.out.form (Nat.mul_pos (by have := HN.out; rw [allW_length hg4] at this; rw [← this]; exact Nat.pow_pos (by omega)) (by omega))
          injection hb' with e1 e2 e3
          subst e1 e3
          have y1 := HBX.out.2
          rw [← HB2.out.cell (p := ⟨w.heap.size, 0, none⟩) HBX.out.1] at y1
          have HBX2 : Hid (w.heap.size < wr.heap.size ∧ wr.cell? ⟨w.heap.size, 0, none⟩ = some (.int .i64 (g : Int))) := ⟨Nat.lt_of_lt_of_le HBX.out.1 HB2.out.size, y1⟩
          have B2 : Hid (Below w.heap.size w wr) := two_worlds' HB.out HB2.out
          have O2' : Hid (wr.ownsRow (w.heap.size + 1) 9 1 (.slice (some ⟨b', 0, none⟩) (g ^ (k + 1)) cq) (g ^ (k + 1)) ((bas (allW g (k + 1))).map Value.string)) := by
            unfold Hid; rw [HNE.out]; exact own_lower O2.out (by have := HBX.out.1; omega)
          have HEQ : Hid (Value.slice (some ⟨b', 0, none⟩) (i * g) cq = .slice (some ⟨b', 0, none⟩) (g ^ (k + 1)) cq) := by unfold Hid; rw [HNE.out]
          clear y1 e2
          go_wp2
          go_roundw
          case rel => exact ⟨k + 1, b', cq, by omega, by go_num, HEQ.out, B2.out, HBX2.out, O2'.out⟩
          case measure => simp [intOf]; omega
    · have hkr : k = r := by omega
      subst hkr
      have HF : Hid (GivesO (bas (allW g k)) (g ^ k) w (.returned (.slice (some ⟨b, 0, none⟩) (g ^ k) co)) wo) := ⟨b, co, rfl, HB.out, own_lower HO.out (Nat.le_succ _)⟩
      go_wp2
      go_ret
      exact HF.out
end Go.Proofs.YtpkkibnpjhlfmaaDoor
