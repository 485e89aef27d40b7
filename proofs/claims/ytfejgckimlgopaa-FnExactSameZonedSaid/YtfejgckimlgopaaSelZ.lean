/-
  Tubes selected by their zones: tubesWhere with its two tests, TubesOfZone, PushedAt; and LevelAt. The model's walks and the program's.
-/
import Derived.Test.YtfejgckimlgopaaLevelOf
namespace Go.Proofs.Ytfejgckimlgopaa
open Go.RowKit

/-- The places among the first k that hold a number of a kind. -/
def selL (l : List Int) (q : Int → Bool) (k : Nat) : List Int := ((List.range k).filter fun (j : Nat) => (l[j]?).any q).map fun (j : Nat) => (j : Int)
theorem selL_hit {l : List Int} {q : Int → Bool} {k : Nat} (hk : k < l.length) (h : q l[k] = true) : selL l q (k + 1) = selL l q k ++ [(k : Int)] := by
  unfold selL
  rw [List.range_succ, List.filter_append, List.map_append]
  simp [hk, h]
theorem selL_miss {l : List Int} {q : Int → Bool} {k : Nat} (hk : k < l.length) (h : q l[k] = false) : selL l q (k + 1) = selL l q k := by
  unfold selL
  rw [List.range_succ, List.filter_append, List.map_append]
  simp [hk, h]
theorem selL_len (l : List Int) (q : Int → Bool) (k : Nat) : (selL l q k).length ≤ k := by
  unfold selL
  rw [List.length_map]
  exact Nat.le_trans (List.length_filter_le _ _) (by simp)
noncomputable def tubR (t : TZoned) (z : Int) : List Int × Int := if zoneC t z = 0 then (selL t.2.1 (fun x => x == z) t.2.1.length, 0) else ([], zoneC t z)
noncomputable def pushR (t : TZoned) (tick : Int) : List Int × Int := if rangeCode (zc t) tick 10000 = 0 then (selL t.2.1 (fun x => levH (hisL t.2.2 x) tick != 0) t.2.1.length, 0) else ([], rangeCode (zc t) tick 10000)
noncomputable def levR (t : TZoned) (z tick : Int) : Int × Int := if rangeCode (zoneC t z) tick 10000 = 0 then (levH (hisL t.2.2 z) tick, 0) else (0, rangeCode (zoneC t z) tick 10000)
theorem zc_ok {t : TZoned} (h : zc t = 0) : ZonP t := by
  cases hz : zonB t with
  | false => rw [zc_no hz] at h; omega
  | true => exact zonB_of hz
theorem zc_code {t : TZoned} {x hi : Int} (h : rangeCode (zc t) x hi = 0) : ZonP t := zc_ok (range_ok h).1
theorem tubR_len {t : TZoned} {z : Int} : (tubR t z).1.length ≤ 1048576 := by
  unfold tubR
  split
  · rename_i h
    have := (zoneC_ok h).1.2.2.1
    exact Nat.le_trans (selL_len _ _ _) (by omega)
  · simp
theorem pushR_len {t : TZoned} {z : Int} : (pushR t z).1.length ≤ 1048576 := by
  unfold pushR
  split
  · rename_i h
    have := (zc_code h).2.2.1
    exact Nat.le_trans (selL_len _ _ _) (by omega)
  · simp
theorem zbox (w : World) (z : Int) (a : Option Addr) (n c : Nat) (b : Option Addr) (m d : Nat) : ∀ w', Below (w.alloc (.cells #[.int .i64 z, .slice a n c, .slice b m d] 27)).heap.size (w.alloc (.cells #[.int .i64 z, .slice a n c, .slice b m d] 27)) w' → w'.cell? ⟨w.heap.size, 0, none⟩ = some (.int .i64 z) ∧ w'.cell? ⟨w.heap.size, 1, none⟩ = some (.slice a n c) ∧ w'.cell? ⟨w.heap.size, 2, none⟩ = some (.slice b m d) :=
  fun w' h => ⟨keepS h (by simp [go_sem]), keepS h (by simp [go_sem]), keepS h (by simp [go_sem])⟩
theorem news_num (W : World) (e : TypeId) (z : Value) : ∀ j u, [z][j]? = some u → (W.alloc (.cells #[z] e)).cell? ((⟨W.heap.size, 0, none⟩ : Addr).add j) = some u := World.news_of_block (heap_alloc_new W _)

set_option maxHeartbeats 2000000 in
theorem whereTub_any (t : TZoned) (a b : Option Addr) (n c m d : Nat) (c0 : Nat) (q : Int → Bool) (w : World) (hn : Hid (t.2.1.length = n)) (ha : RI w a t.2.1) (hs : n ≤ 1048576)
    (hf : ∀ W, Below w.heap.size w W → ∀ x ∈ t.2.1, Calls Try.prog 86 #[.int .i64 x, .pointer (some ⟨c0, 0, none⟩)] W fun e w' => e = .returned (.bool (q x)) ∧ Below W.heap.size W w') :
    Calls Try.prog 83 #[.agg #[.int .i64 t.1, .slice a n c, .slice b m d], .func (.func 86) #[] #[.pointer (some ⟨c0, 0, none⟩)]] w fun e w' => ∃ v, e = .returned v ∧ Hid (w'.ownsRow w.heap.size 2 1 v (selL t.2.1 q n).length ((selL t.2.1 q n).map (Value.int .i64))) ∧ Below w.heap.size w w' := by
  have HF := Lib.hid hf
  have HA : Hid (∀ w', Below w.heap.size w w' → RI w' a t.2.1) := fun w' h => ha.below h
  have HI : Hid (∃ i0 : TypeInfo, Try.prog.info? 2 = some i0 ∧ i0.zero = some (.int .i64 0) ∧ i0.size = 1 ∧ i0.bytes = 8) := info_parts info2
  clear hf ha
  go_enter Try.func83, Try.ntmps83
  go_wp2
  go_loopw [5, 11] (fun vo iv wr => ∃ (k i cap : Nat) (ao : Option Addr) (l : List Int), k ≤ n ∧ i ≤ k ∧ vo = .slice ao i cap ∧ iv = .int .i64 (k : Int) ∧ Hid (Below w.heap.size w wr) ∧ Hid (l = selL t.2.1 q k) ∧ Hid (l.length = i) ∧ Hid (wr.ownsRow w.heap.size 2 1 (.slice ao i cap) i (l.map (Value.int .i64)))) (fun _ iv _ => n - (intOf iv).toNat)
  case atStart => exact ⟨0, 0, 0, none, [], by omega, by omega, rfl, rfl, (by repeat (first | exact Below.refl _ _ | refine Below.alloc ?_ (by simp; try omega) _ | refine Below.setCell ?_ (by simp; try omega) _)), rfl, rfl, World.ownsRow_nil _ _ _ _⟩
  case round =>
    obtain ⟨k, i, cap, ao, l, hk, hik, rfl, rfl, HBEL, HL, HLEN, HOWN⟩ := hrel
    by_cases hlt : k < n
    · have hka : k < t.2.1.length := by rw [hn.out]; exact hlt
      have HHIT : Hid (q t.2.1[k] = true → selL t.2.1 q (k + 1) = selL t.2.1 q k ++ [(k : Int)]) := fun h => selL_hit hka h
      have HMISS : Hid (q t.2.1[k] = false → selL t.2.1 q (k + 1) = selL t.2.1 q k) := fun h => selL_miss hka h
      have HC := Lib.hid (HF.out wr HBEL.out _ (List.getElem_mem hka))
      obtain ⟨ba, oa, rfl, _, x0⟩ := (HA.out _ HBEL.out).at_ k hka
      generalize t.2.1[k] = u at x0 HHIT HMISS HC
      have hk0 : (0 : Int) ≤ (k : Int) := by omega
      have hk1 : (k : Int) < (n : Int) := by omega
      cases hq : q u with
      | true =>
        have HN := Lib.hid (HHIT.out hq)
        rw [hq] at HC
        clear HHIT HMISS hq
        go_wp2_with fail
        refine HC.out.mono ?_
        rintro e w2 ⟨rfl, hb2⟩
        have HB2 : Hid (Below w.heap.size w w2) := HBEL.out.trans (hb2.mono HBEL.out.size)
        have HO2 : Hid (w2.ownsRow w.heap.size 2 1 (.slice ao i cap) i (l.map (Value.int .i64))) := ((Row.of HOWN.out).below hb2).1
        have hw2 := HB2.out.size
        have HGE : Hid (∀ q, (Value.slice ao i cap).ownBlock = some q → w.heap.size ≤ q) := fun q hq => (HO2.out.lt q hq).1
        clear hb2 x0 HC
        go_wp2_with (at_builtin; refine wpList_append_lies _ rfl _ _ 24 rfl w.heap.size 2 HI.out.choose (.int .i64 0) 1 8 Try.underlying24 HI.out.choose_spec.1 HI.out.choose_spec.2.1 HI.out.choose_spec.2.2.1 HI.out.choose_spec.2.2.2 rfl (by decide) (.slice ao i cap) i (l.map (Value.int .i64)) rfl (HO2.out.alloc _) ⟨w2.heap.size, 0, none⟩ 1 1 [.int .i64 (k : Int)] rfl rfl (news_num _ _ _) (by intro u hu; simp at hu; subst hu; rfl) (by omega) (by unfold maxLen; omega) (by omega) (by simp; omega) (w2.heap.size + 1) (by simp) ?_)
        intro g cap' w3 hown1 hgrow hat hlt2
        have B5 : Hid (Below w.heap.size w w3) := (HB2.out.alloc hw2 _).grown hgrow (by simp; omega) HGE.out
        have O1 : Hid (w3.ownsRow w.heap.size 2 1 (.slice (some ⟨g, 0, none⟩) (i + 1) cap') (i + 1) ((l ++ [(k : Int)]).map (Value.int .i64))) := by
          unfold Hid; rw [List.map_append]; exact hown1
        clear hown1 hgrow hat hlt2
        go_wp2
        go_roundw
        case rel => exact ⟨k + 1, i + 1, cap', _, l ++ [(k : Int)], by omega, by omega, rfl, by go_num, B5, by unfold Hid; rw [HN.out, ← HL.out], by unfold Hid; rw [List.length_append, HLEN.out]; rfl, O1⟩
        case measure => simp [intOf]; omega
      | false =>
        have HN := Lib.hid (HMISS.out hq)
        rw [hq] at HC
        clear HHIT HMISS hq
        go_wp2_with fail
        refine HC.out.mono ?_
        rintro e w2 ⟨rfl, hb2⟩
        have HB2 : Hid (Below w.heap.size w w2) := HBEL.out.trans (hb2.mono HBEL.out.size)
        have HO2 : Hid (w2.ownsRow w.heap.size 2 1 (.slice ao i cap) i (l.map (Value.int .i64))) := ((Row.of HOWN.out).below hb2).1
        clear hb2 x0 HC
        go_wp2
        go_roundw
        case rel => exact ⟨k + 1, i, cap, ao, l, by omega, by omega, rfl, by go_num, HB2, by unfold Hid; rw [HN.out, ← HL.out], HLEN, HO2⟩
        case measure => simp [intOf]; omega
    · have hkn : k = n := by omega
      subst hkn
      have HO : Hid (wr.ownsRow w.heap.size 2 1 (.slice ao i cap) (selL t.2.1 q k).length ((selL t.2.1 q k).map (Value.int .i64))) := by
        unfold Hid
        rw [← HL.out, HLEN.out]
        exact HOWN.out
      go_wp2
      go_ret
      exact ⟨_, rfl, HO, HBEL.out⟩

set_option maxHeartbeats 2000000 in
theorem wherePush_any (t : TZoned) (a b : Option Addr) (n c m d : Nat) (c0 c1 : Nat) (q : Int → Bool) (w : World) (hn : Hid (t.2.1.length = n)) (ha : RI w a t.2.1) (hs : n ≤ 1048576)
    (hf : ∀ W, Below w.heap.size w W → ∀ x ∈ t.2.1, Calls Try.prog 84 #[.int .i64 x, .pointer (some ⟨c0, 0, none⟩), .pointer (some ⟨c1, 0, none⟩)] W fun e w' => e = .returned (.bool (q x)) ∧ Below W.heap.size W w') :
    Calls Try.prog 83 #[.agg #[.int .i64 t.1, .slice a n c, .slice b m d], .func (.func 84) #[] #[.pointer (some ⟨c0, 0, none⟩), .pointer (some ⟨c1, 0, none⟩)]] w fun e w' => ∃ v, e = .returned v ∧ Hid (w'.ownsRow w.heap.size 2 1 v (selL t.2.1 q n).length ((selL t.2.1 q n).map (Value.int .i64))) ∧ Below w.heap.size w w' := by
  have HF := Lib.hid hf
  have HA : Hid (∀ w', Below w.heap.size w w' → RI w' a t.2.1) := fun w' h => ha.below h
  have HI : Hid (∃ i0 : TypeInfo, Try.prog.info? 2 = some i0 ∧ i0.zero = some (.int .i64 0) ∧ i0.size = 1 ∧ i0.bytes = 8) := info_parts info2
  clear hf ha
  go_enter Try.func83, Try.ntmps83
  go_wp2
  go_loopw [5, 11] (fun vo iv wr => ∃ (k i cap : Nat) (ao : Option Addr) (l : List Int), k ≤ n ∧ i ≤ k ∧ vo = .slice ao i cap ∧ iv = .int .i64 (k : Int) ∧ Hid (Below w.heap.size w wr) ∧ Hid (l = selL t.2.1 q k) ∧ Hid (l.length = i) ∧ Hid (wr.ownsRow w.heap.size 2 1 (.slice ao i cap) i (l.map (Value.int .i64)))) (fun _ iv _ => n - (intOf iv).toNat)
  case atStart => exact ⟨0, 0, 0, none, [], by omega, by omega, rfl, rfl, (by repeat (first | exact Below.refl _ _ | refine Below.alloc ?_ (by simp; try omega) _ | refine Below.setCell ?_ (by simp; try omega) _)), rfl, rfl, World.ownsRow_nil _ _ _ _⟩
  case round =>
    obtain ⟨k, i, cap, ao, l, hk, hik, rfl, rfl, HBEL, HL, HLEN, HOWN⟩ := hrel
    by_cases hlt : k < n
    · have hka : k < t.2.1.length := by rw [hn.out]; exact hlt
      have HHIT : Hid (q t.2.1[k] = true → selL t.2.1 q (k + 1) = selL t.2.1 q k ++ [(k : Int)]) := fun h => selL_hit hka h
      have HMISS : Hid (q t.2.1[k] = false → selL t.2.1 q (k + 1) = selL t.2.1 q k) := fun h => selL_miss hka h
      have HC := Lib.hid (HF.out wr HBEL.out _ (List.getElem_mem hka))
      obtain ⟨ba, oa, rfl, _, x0⟩ := (HA.out _ HBEL.out).at_ k hka
      generalize t.2.1[k] = u at x0 HHIT HMISS HC
      have hk0 : (0 : Int) ≤ (k : Int) := by omega
      have hk1 : (k : Int) < (n : Int) := by omega
      cases hq : q u with
      | true =>
        have HN := Lib.hid (HHIT.out hq)
        rw [hq] at HC
        clear HHIT HMISS hq
        go_wp2_with fail
        refine HC.out.mono ?_
        rintro e w2 ⟨rfl, hb2⟩
        have HB2 : Hid (Below w.heap.size w w2) := HBEL.out.trans (hb2.mono HBEL.out.size)
        have HO2 : Hid (w2.ownsRow w.heap.size 2 1 (.slice ao i cap) i (l.map (Value.int .i64))) := ((Row.of HOWN.out).below hb2).1
        have hw2 := HB2.out.size
        have HGE : Hid (∀ q, (Value.slice ao i cap).ownBlock = some q → w.heap.size ≤ q) := fun q hq => (HO2.out.lt q hq).1
        clear hb2 x0 HC
        go_wp2_with (at_builtin; refine wpList_append_lies _ rfl _ _ 24 rfl w.heap.size 2 HI.out.choose (.int .i64 0) 1 8 Try.underlying24 HI.out.choose_spec.1 HI.out.choose_spec.2.1 HI.out.choose_spec.2.2.1 HI.out.choose_spec.2.2.2 rfl (by decide) (.slice ao i cap) i (l.map (Value.int .i64)) rfl (HO2.out.alloc _) ⟨w2.heap.size, 0, none⟩ 1 1 [.int .i64 (k : Int)] rfl rfl (news_num _ _ _) (by intro u hu; simp at hu; subst hu; rfl) (by omega) (by unfold maxLen; omega) (by omega) (by simp; omega) (w2.heap.size + 1) (by simp) ?_)
        intro g cap' w3 hown1 hgrow hat hlt2
        have B5 : Hid (Below w.heap.size w w3) := (HB2.out.alloc hw2 _).grown hgrow (by simp; omega) HGE.out
        have O1 : Hid (w3.ownsRow w.heap.size 2 1 (.slice (some ⟨g, 0, none⟩) (i + 1) cap') (i + 1) ((l ++ [(k : Int)]).map (Value.int .i64))) := by
          unfold Hid; rw [List.map_append]; exact hown1
        clear hown1 hgrow hat hlt2
        go_wp2
        go_roundw
        case rel => exact ⟨k + 1, i + 1, cap', _, l ++ [(k : Int)], by omega, by omega, rfl, by go_num, B5, by unfold Hid; rw [HN.out, ← HL.out], by unfold Hid; rw [List.length_append, HLEN.out]; rfl, O1⟩
        case measure => simp [intOf]; omega
      | false =>
        have HN := Lib.hid (HMISS.out hq)
        rw [hq] at HC
        clear HHIT HMISS hq
        go_wp2_with fail
        refine HC.out.mono ?_
        rintro e w2 ⟨rfl, hb2⟩
        have HB2 : Hid (Below w.heap.size w w2) := HBEL.out.trans (hb2.mono HBEL.out.size)
        have HO2 : Hid (w2.ownsRow w.heap.size 2 1 (.slice ao i cap) i (l.map (Value.int .i64))) := ((Row.of HOWN.out).below hb2).1
        clear hb2 x0 HC
        go_wp2
        go_roundw
        case rel => exact ⟨k + 1, i, cap, ao, l, by omega, by omega, rfl, by go_num, HB2, by unfold Hid; rw [HN.out, ← HL.out], HLEN, HO2⟩
        case measure => simp [intOf]; omega
    · have hkn : k = n := by omega
      subst hkn
      have HO : Hid (wr.ownsRow w.heap.size 2 1 (.slice ao i cap) (selL t.2.1 q k).length ((selL t.2.1 q k).map (Value.int .i64))) := by
        unfold Hid
        rw [← HL.out, HLEN.out]
        exact HOWN.out
      go_wp2
      go_ret
      exact ⟨_, rfl, HO, HBEL.out⟩

set_option maxHeartbeats 4000000 in
theorem specTubesOfZone_any (w : World) {a b : Option Addr} {n c m d : Nat} (t : TZoned) (hn : Hid (t.2.1.length = n)) (ha : RI w a t.2.1) (hs : n ≤ 1048576) (hm : Hid (t.2.2.length = m)) (hb : RR 3 cChange w b t.2.2) (hs2 : m ≤ 1048576) (wf : Hid (wfZoned t)) (f1 : Int) (_wf1 : (Lit.int .i64 f1).wf = true) :
    Calls Try.prog 27 #[.agg #[.int .i64 t.1, .slice a n c, .slice b m d], .int .i64 f1] w (GivesIs 2 (tubR t f1) w) := by
  have HZ : Hid (∀ w', Below w.heap.size w w' → ZArg w' a n b m t) := fun w' h => (ZArg.mk hn ha hs hm hb hs2 wf).below h
  have HA : Hid (∀ w', Below w.heap.size w w' → RI w' a t.2.1) := fun w' h => ha.below h
  have HB : Hid (∀ w', Below w.heap.size w w' → RR 3 cChange w' b t.2.2) := fun w' h => hb.below h
  have ZB := Lib.hid (zbox w t.1 a n c b m d)
  have HI : Hid (∃ i0 : TypeInfo, Try.prog.info? 2 = some i0 ∧ i0.zero = some (.int .i64 0) ∧ i0.size = 1 ∧ i0.bytes = 8) := info_parts info2
  clear ha hb
  go_enter Try.func27, Try.ntmps27
  go_wp2_with fail
  refine (l09Code_any _ t a b n c m d f1 0 _ (HZ.out _ (by repeat (first | exact Below.refl _ _ | refine Below.alloc ?_ (by simp; try omega) _ | refine Below.setCell ?_ (by simp; try omega) _))) (by simp [go_sem]) (by simp [go_sem]) (by simp [go_sem])).mono ?_
  rintro e w1 ⟨rfl, hb1⟩
  rw [range_zero]
  have HB1 : Hid (Below w.heap.size w w1) := Below.trans (by repeat (first | exact Below.refl _ _ | refine Below.alloc ?_ (by simp; try omega) _ | refine Below.setCell ?_ (by simp; try omega) _)) (hb1.mono (by simp))
  have Z1 : Hid (∀ w', Below w1.heap.size w1 w' → w'.cell? ⟨w.heap.size, 0, none⟩ = some (.int .i64 t.1) ∧ w'.cell? ⟨w.heap.size, 1, none⟩ = some (.slice a n c) ∧ w'.cell? ⟨w.heap.size, 2, none⟩ = some (.slice b m d)) := fun w' h => ZB.out _ (hb1.trans (h.mono hb1.size))
  have hw1 := HB1.out.size
  clear hb1
  rcases eq_ways (zoneC t f1) 0 with ⟨⟨e1, e2⟩, e3⟩ | ⟨⟨e1, e2⟩, e3⟩
  · have HR : Hid (tubR t f1 = (selL t.2.1 (fun x => x == f1) n, 0)) := by unfold Hid tubR; rw [if_pos e3, hn.out]
    have hzp := (zoneC_ok e3).1
    have HPW := Lib.hid (zon_pairs hzp)
    have hfew : n ≤ 24 := by have := hzp.2.2.1; rw [hn.out] at this; exact this
    rw [e3]
    clear e3 e1 e2 hzp
    go_wp2
    go_loopw [7, 8] (fun vo iv wr => ∃ (k i cap : Nat) (ao : Option Addr) (l : List Int), k ≤ n ∧ i ≤ k ∧ vo = .slice ao i cap ∧ iv = .int .i64 (k : Int) ∧ Hid (Below w1.heap.size w1 wr) ∧ Hid (l = selL t.2.1 (fun x => x == f1) k) ∧ Hid (l.length = i) ∧ Hid (wr.ownsRow w1.heap.size 2 1 (.slice ao i cap) i (l.map (Value.int .i64)))) (fun _ iv _ => n - (intOf iv).toNat)
    case atStart => exact ⟨0, 0, 0, _, [], by omega, by omega, rfl, rfl, (by repeat (first | exact Below.refl _ _ | refine Below.alloc ?_ (by simp; try omega) _ | refine Below.setCell ?_ (by simp; try omega) _)), rfl, rfl, World.ownsRow_made w1 #[] 0 (Nat.le_refl _) (by unfold maxLen; omega) rfl⟩
    case round =>
      obtain ⟨k, i, cap, ao, l, hk, hik, rfl, rfl, HBEL, HL, HLEN, HOWN⟩ := hrel
      obtain ⟨p0, p1, p2⟩ := Z1.out _ HBEL.out
      have HBW : Hid (Below w.heap.size w wr) := HB1.out.trans (HBEL.out.mono hw1)
      by_cases hlt : k < n
      · have hka : k < t.2.1.length := by rw [hn.out]; exact hlt
        have HHIT : Hid ((fun x => x == f1) t.2.1[k] = true → selL t.2.1 (fun x => x == f1) (k + 1) = selL t.2.1 (fun x => x == f1) k ++ [(k : Int)]) := fun h => selL_hit hka h
        have HMISS : Hid ((fun x => x == f1) t.2.1[k] = false → selL t.2.1 (fun x => x == f1) (k + 1) = selL t.2.1 (fun x => x == f1) k) := fun h => selL_miss hka h
        obtain ⟨ba, oa, rfl, _, x0⟩ := (HA.out _ HBW.out).at_ k hka
        generalize t.2.1[k] = u at x0 HHIT HMISS
        have hk0 : (0 : Int) ≤ (k : Int) := by omega
        have hk1 : (k : Int) < (n : Int) := by omega
        have HO2 := HOWN
        have hw2 := HBEL.out.size
        have HGE : Hid (∀ q, (Value.slice ao i cap).ownBlock = some q → w1.heap.size ≤ q) := fun q hq => (HO2.out.lt q hq).1
        rcases eq_ways u f1 with ⟨⟨g1, g2⟩, g3⟩ | ⟨⟨g1, g2⟩, g3⟩
        · have HN := Lib.hid (HHIT.out (by simp [g3]))
          clear HHIT HMISS g3
          go_wp2_with (at_builtin; refine wpList_append_lies _ rfl _ _ 24 rfl w1.heap.size 2 HI.out.choose (.int .i64 0) 1 8 Try.underlying24 HI.out.choose_spec.1 HI.out.choose_spec.2.1 HI.out.choose_spec.2.2.1 HI.out.choose_spec.2.2.2 rfl (by decide) (.slice ao i cap) i (l.map (Value.int .i64)) rfl (HO2.out.alloc _) ⟨wr.heap.size, 0, none⟩ 1 1 [.int .i64 (k : Int)] rfl rfl (news_num _ _ _) (by intro u hu; simp at hu; subst hu; rfl) (by omega) (by unfold maxLen; omega) (by omega) (by simp; omega) (wr.heap.size + 1) (by simp) ?_)
          intro g cap' w3 hown1 hgrow hat hlt2
          have B5 : Hid (Below w1.heap.size w1 w3) := (HBEL.out.alloc hw2 _).grown hgrow (by simp; omega) HGE.out
          have O1 : Hid (w3.ownsRow w1.heap.size 2 1 (.slice (some ⟨g, 0, none⟩) (i + 1) cap') (i + 1) ((l ++ [(k : Int)]).map (Value.int .i64))) := by
            unfold Hid; rw [List.map_append]; exact hown1
          clear hown1 hgrow hat hlt2
          go_wp2
          go_roundw
          case rel => exact ⟨k + 1, i + 1, cap', _, l ++ [(k : Int)], by omega, by omega, rfl, by go_num, B5, by unfold Hid; rw [HN.out, ← HL.out], by unfold Hid; rw [List.length_append, HLEN.out]; rfl, O1⟩
          case measure => simp [intOf]; omega
        · have HN := Lib.hid (HMISS.out (by simp [g3]))
          clear HHIT HMISS g3
          go_wp2
          go_roundw
          case rel => exact ⟨k + 1, i, cap, ao, l, by omega, by omega, rfl, by go_num, HBEL, by unfold Hid; rw [HN.out, ← HL.out], HLEN, HOWN⟩
          case measure => simp [intOf]; omega
      · have hkn : k = n := by omega
        subst hkn
        have HO : Hid (wr.ownsRow w.heap.size 2 1 (.slice ao i cap) i (l.map (Value.int .i64))) := own_lo HOWN.out hw1
        have HR2 : Hid (tubR t f1 = (l, 0)) := by unfold Hid; rw [HR.out, HL.out]
        clear HOWN
        go_wp2
        go_ret2
        exact givesIs_of HR2.out HBW.out HLEN.out HO.out
  · have HR : Hid (tubR t f1 = ([], zoneC t f1)) := by unfold Hid tubR; rw [if_neg e3]
    clear e3
    go_wp2
    go_ret2
    exact givesIs_nil HR.out HB1.out

set_option maxHeartbeats 4000000 in
theorem specPushedAt_any (w : World) {a b : Option Addr} {n c m d : Nat} (t : TZoned) (hn : Hid (t.2.1.length = n)) (ha : RI w a t.2.1) (hs : n ≤ 1048576) (hm : Hid (t.2.2.length = m)) (hb : RR 3 cChange w b t.2.2) (hs2 : m ≤ 1048576) (wf : Hid (wfZoned t)) (f1 : Int) (_wf1 : (Lit.int .i64 f1).wf = true) :
    Calls Try.prog 24 #[.agg #[.int .i64 t.1, .slice a n c, .slice b m d], .int .i64 f1] w (GivesIs 2 (pushR t f1) w) := by
  have HZ : Hid (∀ w', Below w.heap.size w w' → ZArg w' a n b m t) := fun w' h => (ZArg.mk hn ha hs hm hb hs2 wf).below h
  have HA : Hid (∀ w', Below w.heap.size w w' → RI w' a t.2.1) := fun w' h => ha.below h
  have HB : Hid (∀ w', Below w.heap.size w w' → RR 3 cChange w' b t.2.2) := fun w' h => hb.below h
  have ZB := Lib.hid (zbox w t.1 a n c b m d)
  have HI : Hid (∃ i0 : TypeInfo, Try.prog.info? 2 = some i0 ∧ i0.zero = some (.int .i64 0) ∧ i0.size = 1 ∧ i0.bytes = 8) := info_parts info2
  clear ha hb
  go_enter Try.func24, Try.ntmps24
  go_wp2_with fail
  refine (l09Code_any _ t a b n c m d 0 f1 _ (HZ.out _ (by repeat (first | exact Below.refl _ _ | refine Below.alloc ?_ (by simp; try omega) _ | refine Below.setCell ?_ (by simp; try omega) _))) (by simp [go_sem]) (by simp [go_sem]) (by simp [go_sem])).mono ?_
  rintro e w1 ⟨rfl, hb1⟩
  rw [zone_first]
  have HB1 : Hid (Below w.heap.size w w1) := Below.trans (by repeat (first | exact Below.refl _ _ | refine Below.alloc ?_ (by simp; try omega) _ | refine Below.setCell ?_ (by simp; try omega) _)) (hb1.mono (by simp))
  have Z1 : Hid (∀ w', Below w1.heap.size w1 w' → w'.cell? ⟨w.heap.size, 0, none⟩ = some (.int .i64 t.1) ∧ w'.cell? ⟨w.heap.size, 1, none⟩ = some (.slice a n c) ∧ w'.cell? ⟨w.heap.size, 2, none⟩ = some (.slice b m d)) := fun w' h => ZB.out _ (hb1.trans (h.mono hb1.size))
  have hw1 := HB1.out.size
  clear hb1
  rcases eq_ways (rangeCode (zc t) f1 10000) 0 with ⟨⟨e1, e2⟩, e3⟩ | ⟨⟨e1, e2⟩, e3⟩
  · have HR : Hid (pushR t f1 = (selL t.2.1 (fun x => levH (hisL t.2.2 x) f1 != 0) n, 0)) := by unfold Hid pushR; rw [if_pos e3, hn.out]
    have hzp := zc_code e3
    have HPW := Lib.hid (zon_pairs hzp)
    have hfew : n ≤ 24 := by have := hzp.2.2.1; rw [hn.out] at this; exact this
    rw [e3]
    clear e3 e1 e2 hzp
    go_wp2
    go_loopw [7, 8] (fun vo iv wr => ∃ (k i cap : Nat) (ao : Option Addr) (l : List Int), k ≤ n ∧ i ≤ k ∧ vo = .slice ao i cap ∧ iv = .int .i64 (k : Int) ∧ Hid (Below w1.heap.size w1 wr) ∧ Hid (l = selL t.2.1 (fun x => levH (hisL t.2.2 x) f1 != 0) k) ∧ Hid (l.length = i) ∧ Hid (wr.ownsRow w1.heap.size 2 1 (.slice ao i cap) i (l.map (Value.int .i64)))) (fun _ iv _ => n - (intOf iv).toNat)
    case atStart => exact ⟨0, 0, 0, _, [], by omega, by omega, rfl, rfl, (by repeat (first | exact Below.refl _ _ | refine Below.alloc ?_ (by simp; try omega) _ | refine Below.setCell ?_ (by simp; try omega) _)), rfl, rfl, World.ownsRow_made w1 #[] 0 (Nat.le_refl _) (by unfold maxLen; omega) rfl⟩
    case round =>
      obtain ⟨k, i, cap, ao, l, hk, hik, rfl, rfl, HBEL, HL, HLEN, HOWN⟩ := hrel
      obtain ⟨p0, p1, p2⟩ := Z1.out _ HBEL.out
      have HBW : Hid (Below w.heap.size w wr) := HB1.out.trans (HBEL.out.mono hw1)
      by_cases hlt : k < n
      · have hka : k < t.2.1.length := by rw [hn.out]; exact hlt
        have HHIT : Hid ((fun x => levH (hisL t.2.2 x) f1 != 0) t.2.1[k] = true → selL t.2.1 (fun x => levH (hisL t.2.2 x) f1 != 0) (k + 1) = selL t.2.1 (fun x => levH (hisL t.2.2 x) f1 != 0) k ++ [(k : Int)]) := fun h => selL_hit hka h
        have HMISS : Hid ((fun x => levH (hisL t.2.2 x) f1 != 0) t.2.1[k] = false → selL t.2.1 (fun x => levH (hisL t.2.2 x) f1 != 0) (k + 1) = selL t.2.1 (fun x => levH (hisL t.2.2 x) f1 != 0) k) := fun h => selL_miss hka h
        obtain ⟨ba, oa, rfl, _, x0⟩ := (HA.out _ HBW.out).at_ k hka
        generalize t.2.1[k] = u at x0 HHIT HMISS
        have hk0 : (0 : Int) ≤ (k : Int) := by omega
        have hk1 : (k : Int) < (n : Int) := by omega
        have HO2 := HOWN
        have hw2 := HBEL.out.size
        have HGE : Hid (∀ q, (Value.slice ao i cap).ownBlock = some q → w1.heap.size ≤ q) := fun q hq => (HO2.out.lt q hq).1
        have LV := Lib.hid (l09Level_any w.heap.size t b m d u f1 wr hm (HB.out _ HBW.out) hs2 HPW.out p2)
        obtain ⟨lv, hlv⟩ : ∃ lv, levH (hisL t.2.2 u) f1 = lv := ⟨_, rfl⟩
        rw [hlv] at LV
        rcases eq_ways lv 0 with ⟨⟨g1, g2⟩, g3⟩ | ⟨⟨g1, g2⟩, g3⟩
        · have HN := Lib.hid (HMISS.out (by dsimp only; rw [hlv]; simp [g3]))
          clear HHIT HMISS g3
          go_wp2_with (go_at_call 72; refine LV.out.mono ?_; rintro e w' ⟨rfl, rfl⟩)
          go_roundw
          case rel => exact ⟨k + 1, i, cap, ao, l, by omega, by omega, rfl, by go_num, HBEL, by unfold Hid; rw [HN.out, ← HL.out], HLEN, HOWN⟩
          case measure => simp [intOf]; omega
        · have HN := Lib.hid (HHIT.out (by dsimp only; rw [hlv]; simp [g3]))
          clear HHIT HMISS g3
          go_wp2_with (first | (go_at_call 72; refine LV.out.mono ?_; rintro e w' ⟨rfl, rfl⟩) | (at_builtin; refine wpList_append_lies _ rfl _ _ 24 rfl w1.heap.size 2 HI.out.choose (.int .i64 0) 1 8 Try.underlying24 HI.out.choose_spec.1 HI.out.choose_spec.2.1 HI.out.choose_spec.2.2.1 HI.out.choose_spec.2.2.2 rfl (by decide) (.slice ao i cap) i (l.map (Value.int .i64)) rfl (HO2.out.alloc _) ⟨wr.heap.size, 0, none⟩ 1 1 [.int .i64 (k : Int)] rfl rfl (news_num _ _ _) (by intro u hu; simp at hu; subst hu; rfl) (by omega) (by unfold maxLen; omega) (by omega) (by simp; omega) (wr.heap.size + 1) (by simp) ?_))
          intro g cap' w3 hown1 hgrow hat hlt2
          have B5 : Hid (Below w1.heap.size w1 w3) := (HBEL.out.alloc hw2 _).grown hgrow (by simp; omega) HGE.out
          have O1 : Hid (w3.ownsRow w1.heap.size 2 1 (.slice (some ⟨g, 0, none⟩) (i + 1) cap') (i + 1) ((l ++ [(k : Int)]).map (Value.int .i64))) := by
            unfold Hid; rw [List.map_append]; exact hown1
          clear hown1 hgrow hat hlt2
          go_wp2
          go_roundw
          case rel => exact ⟨k + 1, i + 1, cap', _, l ++ [(k : Int)], by omega, by omega, rfl, by go_num, B5, by unfold Hid; rw [HN.out, ← HL.out], by unfold Hid; rw [List.length_append, HLEN.out]; rfl, O1⟩
          case measure => simp [intOf]; omega
      · have hkn : k = n := by omega
        subst hkn
        have HO : Hid (wr.ownsRow w.heap.size 2 1 (.slice ao i cap) i (l.map (Value.int .i64))) := own_lo HOWN.out hw1
        have HR2 : Hid (pushR t f1 = (l, 0)) := by unfold Hid; rw [HR.out, HL.out]
        clear HOWN
        go_wp2
        go_ret2
        exact givesIs_of HR2.out HBW.out HLEN.out HO.out
  · have HR : Hid (pushR t f1 = ([], rangeCode (zc t) f1 10000)) := by unfold Hid pushR; rw [if_neg e3]
    clear e3
    go_wp2
    go_ret2
    exact givesIs_nil HR.out HB1.out

set_option maxHeartbeats 1000000 in
theorem specLevelAt_any (w : World) {a b : Option Addr} {n c m d : Nat} (t : TZoned) (hn : Hid (t.2.1.length = n)) (ha : RI w a t.2.1) (hs : n ≤ 1048576) (hm : Hid (t.2.2.length = m)) (hb : RR 3 cChange w b t.2.2) (hs2 : m ≤ 1048576) (wf : Hid (wfZoned t)) (f1 : Int) (_wf1 : (Lit.int .i64 f1).wf = true) (f2 : Int) (_wf2 : (Lit.int .i64 f2).wf = true) :
    Calls Try.prog 41 #[.agg #[.int .i64 t.1, .slice a n c, .slice b m d], .int .i64 f1, .int .i64 f2] w fun e w' => e = .returned (.tuple #[.int .i64 (levR t f1 f2).1, .int .i64 (levR t f1 f2).2]) ∧ Below w.heap.size w w' := by
  have HZ : Hid (∀ w', Below w.heap.size w w' → ZArg w' a n b m t) := fun w' h => (ZArg.mk hn ha hs hm hb hs2 wf).below h
  have HA : Hid (∀ w', Below w.heap.size w w' → RI w' a t.2.1) := fun w' h => ha.below h
  have HB : Hid (∀ w', Below w.heap.size w w' → RR 3 cChange w' b t.2.2) := fun w' h => hb.below h
  have ZB := Lib.hid (zbox w t.1 a n c b m d)
  have HI : Hid (∃ i0 : TypeInfo, Try.prog.info? 2 = some i0 ∧ i0.zero = some (.int .i64 0) ∧ i0.size = 1 ∧ i0.bytes = 8) := info_parts info2
  clear ha hb
  go_enter Try.func41, Try.ntmps41
  go_wp2_with fail
  refine (l09Code_any _ t a b n c m d f1 f2 _ (HZ.out _ (by repeat (first | exact Below.refl _ _ | refine Below.alloc ?_ (by simp; try omega) _ | refine Below.setCell ?_ (by simp; try omega) _))) (by simp [go_sem]) (by simp [go_sem]) (by simp [go_sem])).mono ?_
  rintro e w1 ⟨rfl, hb1⟩
  have HB1 : Hid (Below w.heap.size w w1) := Below.trans (by repeat (first | exact Below.refl _ _ | refine Below.alloc ?_ (by simp; try omega) _ | refine Below.setCell ?_ (by simp; try omega) _)) (hb1.mono (by simp))
  obtain ⟨p0, p1, p2⟩ := ZB.out _ hb1
  clear hb1
  rcases eq_ways (rangeCode (zoneC t f1) f2 10000) 0 with ⟨⟨e1, e2⟩, e3⟩ | ⟨⟨e1, e2⟩, e3⟩
  · have HR : Hid (levR t f1 f2 = (levH (hisL t.2.2 f1) f2, 0)) := by unfold Hid levR; rw [if_pos e3]
    have LV := Lib.hid (l09Level_any w.heap.size t b m d f1 f2 w1 hm (HB.out _ HB1.out) hs2 (zon_pairs (zoneC_ok (range_ok e3).1).1) p2)
    rw [e3]
    clear e3 e1 e2
    go_wp2_with fail
    refine LV.out.mono ?_
    rintro e w' ⟨rfl, rfl⟩
    go_wp2
    go_ret2
    rw [HR.out]
    exact ⟨rfl, HB1.out⟩
  · have HR : Hid (levR t f1 f2 = (0, rangeCode (zoneC t f1) f2 10000)) := by unfold Hid levR; rw [if_neg e3]
    clear e3
    go_wp2
    go_ret2
    rw [HR.out]
    exact ⟨rfl, HB1.out⟩
set_option maxHeartbeats 1000000 in
theorem implLevelAt_any (w : World) {a b : Option Addr} {n c m d : Nat} (t : TZoned) (hn : Hid (t.2.1.length = n)) (ha : RI w a t.2.1) (hs : n ≤ 1048576) (hm : Hid (t.2.2.length = m)) (hb : RR 3 cChange w b t.2.2) (hs2 : m ≤ 1048576) (wf : Hid (wfZoned t)) (f1 : Int) (wf1 : (Lit.int .i64 f1).wf = true) (f2 : Int) (_wf2 : (Lit.int .i64 f2).wf = true) :
    Calls Try.prog 42 #[.agg #[.int .i64 t.1, .slice a n c, .slice b m d], .int .i64 f1, .int .i64 f2] w fun e w' => e = .returned (.tuple #[.int .i64 (levR t f1 f2).1, .int .i64 (levR t f1 f2).2]) ∧ Below w.heap.size w w' := by
  have HZ : Hid (∀ w', Below w.heap.size w w' → ZArg w' a n b m t) := fun w' h => (ZArg.mk hn ha hs hm hb hs2 wf).below h
  have HA : Hid (∀ w', Below w.heap.size w w' → RI w' a t.2.1) := fun w' h => ha.below h
  have HB : Hid (∀ w', Below w.heap.size w w' → RR 3 cChange w' b t.2.2) := fun w' h => hb.below h
  have ZB := Lib.hid (zbox w t.1 a n c b m d)
  have HI : Hid (∃ i0 : TypeInfo, Try.prog.info? 2 = some i0 ∧ i0.zero = some (.int .i64 0) ∧ i0.size = 1 ∧ i0.bytes = 8) := info_parts info2
  clear ha hb
  go_enter Try.func42, Try.ntmps42
  go_wp2_with fail
  refine (checkZone_any t a b n c m d f1 _ (HZ.out _ (by repeat (first | exact Below.refl _ _ | refine Below.alloc ?_ (by simp; try omega) _ | refine Below.setCell ?_ (by simp; try omega) _)))).mono ?_
  rintro e w1 ⟨rfl, hb1⟩
  have HB1 : Hid (Below w.heap.size w w1) := Below.trans (by repeat (first | exact Below.refl _ _ | refine Below.alloc ?_ (by simp; try omega) _ | refine Below.setCell ?_ (by simp; try omega) _)) (hb1.mono (by simp))
  obtain ⟨p0, p1, p2⟩ := ZB.out _ hb1
  clear hb1
  rcases eq_ways (rangeCode (zoneC t f1) f2 10000) 0 with ⟨⟨e1, e2⟩, e3⟩ | ⟨⟨e1, e2⟩, e3⟩
  · have HR : Hid (levR t f1 f2 = (levH (hisL t.2.2 f1) f2, 0)) := by unfold Hid levR; rw [if_pos e3]
    have HPW := Lib.hid (zon_pairs (zoneC_ok (range_ok e3).1).1)
    have HO := Lib.hid (historiesOf_any t a b n c m d w1 (HZ.out _ HB1.out))
    go_wp2_with fail
    refine (checkRange_any _ _ _ _).mono ?_
    rintro e w' ⟨rfl, rfl⟩
    rw [e3]
    clear e3 e1 e2
    go_wp2_with fail
    refine HO.out.mono ?_
    rintro e w2 ⟨rfl, ⟨V, hV⟩, hb2⟩
    have HB2 : Hid (Below w.heap.size w w2) := HB1.out.trans (hb2.mono HB1.out.size)
    obtain ⟨ah, ch, hv, hr⟩ := hV.2.shape f1
    have hlk := hV.1.look Try.underlying2 Try.underlying85 (zeroHist w2) wf1
    rw [hv] at hlk
    have LV := Lib.hid (levelAt_any (hisL t.2.2 f1) ah (hisL t.2.2 f1).length ch f2 w2 (Lib.hid rfl) (Nat.le_trans (hisL_len _ _) (by rw [hm.out]; exact hs2)) (hisL_rising HPW.out f1) hr)
    clear hV hb2 hr hv
    go_wp2_with fail
    refine LV.out.mono ?_
    rintro e w3 ⟨rfl, hb3⟩
    have HB3 : Hid (Below w.heap.size w w3) := HB2.out.trans (hb3.mono HB2.out.size)
    clear hb3
    go_wp2
    go_ret2
    rw [HR.out]
    exact ⟨rfl, HB3.out⟩
  · have HR : Hid (levR t f1 f2 = (0, rangeCode (zoneC t f1) f2 10000)) := by unfold Hid levR; rw [if_neg e3]
    clear e3
    go_wp2_with (go_at_call 63; refine (checkRange_any _ _ _ _).mono ?_; rintro e w' ⟨rfl, rfl⟩)
    go_ret2
    rw [HR.out]
    exact ⟨rfl, HB1.out⟩
theorem tubFn_any (c0 : Nat) (z x : Int) (W : World) (h0 : W.cell? ⟨c0, 0, none⟩ = some (.int .i64 z)) : Calls Try.prog 86 #[.int .i64 x, .pointer (some ⟨c0, 0, none⟩)] W fun e w' => e = .returned (.bool (x == z)) ∧ Below W.heap.size W w' := by
  go_enter Try.func86, Try.ntmps86
  go_wp2
  go_ret
  exact ⟨rfl, Below.refl _ _⟩
theorem pushFn_any (c0 c1 B nn : Nat) (V : Int → Value) (cs : List C3) (tick x : Int) (W : World) (hV : Hist V B nn cs W) (hs : cs.Pairwise ltC) (hl : cs.length ≤ 1048576) (hx : (Lit.int .i64 x).wf = true) (h0 : W.cell? ⟨c0, 0, none⟩ = some (.map (some B))) (h1 : W.cell? ⟨c1, 0, none⟩ = some (.int .i64 tick)) :
    Calls Try.prog 84 #[.int .i64 x, .pointer (some ⟨c0, 0, none⟩), .pointer (some ⟨c1, 0, none⟩)] W fun e w' => e = .returned (.bool (levH (hisL cs x) tick != 0)) ∧ Below W.heap.size W w' := by
  obtain ⟨ah, ch, hv, hr⟩ := hV.2.shape x
  have hlk := hV.1.look Try.underlying2 Try.underlying85 (zeroHist W) hx
  rw [hv] at hlk
  have LV := Lib.hid (levelAt_any (hisL cs x) ah (hisL cs x).length ch tick W (Lib.hid rfl) (Nat.le_trans (hisL_len _ _) hl) (hisL_rising hs x) hr)
  clear hV hr hv
  go_enter Try.func84, Try.ntmps84
  go_wp2_with fail
  refine LV.out.mono ?_
  rintro e w3 ⟨rfl, hb3⟩
  go_wp2
  go_ret
  exact ⟨rfl, hb3⟩
set_option maxHeartbeats 1000000 in
theorem implTubesOfZone_any (w : World) {a b : Option Addr} {n c m d : Nat} (t : TZoned) (hn : Hid (t.2.1.length = n)) (ha : RI w a t.2.1) (hs : n ≤ 1048576) (hm : Hid (t.2.2.length = m)) (hb : RR 3 cChange w b t.2.2) (hs2 : m ≤ 1048576) (wf : Hid (wfZoned t)) (f1 : Int) (_wf1 : (Lit.int .i64 f1).wf = true) :
    Calls Try.prog 26 #[.agg #[.int .i64 t.1, .slice a n c, .slice b m d], .int .i64 f1] w (GivesIs 2 (tubR t f1) w) := by
  have HZ : Hid (∀ w', Below w.heap.size w w' → ZArg w' a n b m t) := fun w' h => (ZArg.mk hn ha hs hm hb hs2 wf).below h
  have HA : Hid (∀ w', Below w.heap.size w w' → RI w' a t.2.1) := fun w' h => ha.below h
  have HB : Hid (∀ w', Below w.heap.size w w' → RR 3 cChange w' b t.2.2) := fun w' h => hb.below h
  have ZB := Lib.hid (zbox w t.1 a n c b m d)
  have HI : Hid (∃ i0 : TypeInfo, Try.prog.info? 2 = some i0 ∧ i0.zero = some (.int .i64 0) ∧ i0.size = 1 ∧ i0.bytes = 8) := info_parts info2
  clear ha hb
  have Z0 : Hid (∀ w', Below ((w.alloc (.cells #[.int .i64 t.1, .slice a n c, .slice b m d] 27)).alloc (.cells #[.int .i64 f1] 2)).heap.size ((w.alloc (.cells #[.int .i64 t.1, .slice a n c, .slice b m d] 27)).alloc (.cells #[.int .i64 f1] 2)) w' → w'.cell? ⟨w.heap.size + 1, 0, none⟩ = some (.int .i64 f1)) := fun w' h => keepS h (by simp [go_sem])
  go_enter Try.func26, Try.ntmps26
  go_wp2_with fail
  refine (checkZone_any t a b n c m d f1 _ (HZ.out _ (by repeat (first | exact Below.refl _ _ | refine Below.alloc ?_ (by simp; try omega) _ | refine Below.setCell ?_ (by simp; try omega) _)))).mono ?_
  rintro e w1 ⟨rfl, hb1⟩
  have HB1 : Hid (Below w.heap.size w w1) := Below.trans (by repeat (first | exact Below.refl _ _ | refine Below.alloc ?_ (by simp; try omega) _ | refine Below.setCell ?_ (by simp; try omega) _)) (hb1.mono (by simp; omega))
  obtain ⟨p0, p1, p2⟩ := ZB.out _ (Below.trans ((Below.refl _ _).alloc (Nat.le_refl _) _) (hb1.mono (by simp)))
  have hw1 := HB1.out.size
  rcases eq_ways (zoneC t f1) 0 with ⟨⟨e1, e2⟩, e3⟩ | ⟨⟨e1, e2⟩, e3⟩
  · have HR : Hid (tubR t f1 = (selL t.2.1 (fun x => x == f1) n, 0)) := by unfold Hid tubR; rw [if_pos e3, hn.out]
    have TW := Lib.hid (whereTub_any t a b n c m d (w.heap.size + 1) (fun x => x == f1) w1 hn (HA.out _ HB1.out) hs (fun W hW x _ => tubFn_any (w.heap.size + 1) f1 x W (Z0.out _ (hb1.trans (hW.mono hb1.size)))))
    rw [e3]
    clear e3 e1 e2 hb1
    go_wp2_with fail
    refine TW.out.mono ?_
    rintro e w2 ⟨v, rfl, HO, hb2⟩
    have HB2 : Hid (Below w.heap.size w w2) := HB1.out.trans (hb2.mono hw1)
    have HO2 := Lib.hid (own_lo HO.out hw1)
    clear hb2 HO
    go_wp2
    go_ret2
    exact givesIs_of HR.out HB2.out rfl HO2.out
  · have HR : Hid (tubR t f1 = ([], zoneC t f1)) := by unfold Hid tubR; rw [if_neg e3]
    clear e3 hb1
    go_wp2
    go_ret2
    exact givesIs_nil HR.out HB1.out
set_option maxHeartbeats 2000000 in
theorem implPushedAt_any (w : World) {a b : Option Addr} {n c m d : Nat} (t : TZoned) (hn : Hid (t.2.1.length = n)) (ha : RI w a t.2.1) (hs : n ≤ 1048576) (hm : Hid (t.2.2.length = m)) (hb : RR 3 cChange w b t.2.2) (hs2 : m ≤ 1048576) (wf : Hid (wfZoned t)) (f1 : Int) (_wf1 : (Lit.int .i64 f1).wf = true) :
    Calls Try.prog 23 #[.agg #[.int .i64 t.1, .slice a n c, .slice b m d], .int .i64 f1] w (GivesIs 2 (pushR t f1) w) := by
  have HZ : Hid (∀ w', Below w.heap.size w w' → ZArg w' a n b m t) := fun w' h => (ZArg.mk hn ha hs hm hb hs2 wf).below h
  have HA : Hid (∀ w', Below w.heap.size w w' → RI w' a t.2.1) := fun w' h => ha.below h
  have HB : Hid (∀ w', Below w.heap.size w w' → RR 3 cChange w' b t.2.2) := fun w' h => hb.below h
  have ZB := Lib.hid (zbox w t.1 a n c b m d)
  have HI : Hid (∃ i0 : TypeInfo, Try.prog.info? 2 = some i0 ∧ i0.zero = some (.int .i64 0) ∧ i0.size = 1 ∧ i0.bytes = 8) := info_parts info2
  clear ha hb
  have Z0 : Hid (∀ w', Below ((w.alloc (.cells #[.int .i64 t.1, .slice a n c, .slice b m d] 27)).alloc (.cells #[.int .i64 f1] 2)).heap.size ((w.alloc (.cells #[.int .i64 t.1, .slice a n c, .slice b m d] 27)).alloc (.cells #[.int .i64 f1] 2)) w' → w'.cell? ⟨w.heap.size, 0, none⟩ = some (.int .i64 t.1) ∧ w'.cell? ⟨w.heap.size, 1, none⟩ = some (.slice a n c) ∧ w'.cell? ⟨w.heap.size, 2, none⟩ = some (.slice b m d) ∧ w'.cell? ⟨w.heap.size + 1, 0, none⟩ = some (.int .i64 f1)) := fun w' h => ⟨keepS h (by simp [go_sem]), keepS h (by simp [go_sem]), keepS h (by simp [go_sem]), keepS h (by simp [go_sem])⟩
  have CZ : Hid (∀ W, Below w.heap.size w W → Calls Try.prog 82 #[.agg #[.int .i64 t.1, .slice a n c, .slice b m d]] W fun e w' => e = .returned (.int .i64 (zc t)) ∧ Below W.heap.size W w') := fun W h => checkZoned_any t a b n c m d W (HZ.out _ h)
  go_enter Try.func23, Try.ntmps23
  go_wp2_with fail
  go_region_held3 (fun w' => w'.cell? ⟨w.heap.size, 0, none⟩ = some (.int .i64 t.1) ∧ w'.cell? ⟨w.heap.size, 1, none⟩ = some (.slice a n c) ∧ w'.cell? ⟨w.heap.size, 2, none⟩ = some (.slice b m d) ∧ w'.cell? ⟨w.heap.size + 1, 0, none⟩ = some (.int .i64 f1)) (first | exact Z0.out _ (Below.refl _ _).drew | exact Z0.out _ (((Below.refl _ _).drew).trans hb1)) (first | (go_at_call 82; refine (CZ.out _ (by (repeat (first | exact Below.refl _ _ | refine Below.drew ?_ | refine Below.drewN' ?_ _ | refine Below.alloc ?_ (by first | (simp; done) | (simp; omega)) _ | refine Below.setCell ?_ (by first | (simp; done) | (simp; omega)) _)); done)).mono ?_; rintro e w1 ⟨rfl, hb1⟩) | (go_at_call 63; refine (checkRange_any _ _ _ _).mono ?_; rintro e w' ⟨rfl, rfl⟩))
  have Z1 : Hid (∀ w', Below w1.heap.size w1 w' → w'.cell? ⟨w.heap.size, 0, none⟩ = some (.int .i64 t.1) ∧ w'.cell? ⟨w.heap.size, 1, none⟩ = some (.slice a n c) ∧ w'.cell? ⟨w.heap.size, 2, none⟩ = some (.slice b m d) ∧ w'.cell? ⟨w.heap.size + 1, 0, none⟩ = some (.int .i64 f1)) := fun w' h => Z0.out _ (((Below.refl _ _).drew).trans (hb1.trans (h.mono hb1.size)))
  have HB1 : Hid (Below w.heap.size w w1) := Below.trans (by (repeat (first | exact Below.refl _ _ | refine Below.drew ?_ | refine Below.drewN' ?_ _ | refine Below.alloc ?_ (by first | (simp; done) | (simp; omega)) _ | refine Below.setCell ?_ (by first | (simp; done) | (simp; omega)) _)); done) (hb1.mono (by simp; omega))
  have hw1 := HB1.out.size
  obtain ⟨p0, p1, p2, p3⟩ := Z1.out _ (Below.refl _ _)
  clear hb1 Z0
  rcases eq_ways (rangeCode (zc t) f1 10000) 0 with ⟨⟨e1, e2⟩, e3⟩ | ⟨⟨e1, e2⟩, e3⟩
  · have HR : Hid (pushR t f1 = (selL t.2.1 (fun x => levH (hisL t.2.2 x) f1 != 0) n, 0)) := by unfold Hid pushR; rw [if_pos e3, hn.out]
    have HPW := Lib.hid (zon_pairs (zc_code e3))
    have HO := Lib.hid (historiesOf_any t a b n c m d w1 (HZ.out _ HB1.out))
    rw [e3]
    clear e3 e1 e2
    go_wp2_with fail
    refine HO.out.mono ?_
    rintro e w2 ⟨rfl, ⟨V, hV⟩, hb2⟩
    have HB2 : Hid (Below w.heap.size w w2) := HB1.out.trans (hb2.mono hw1)
    obtain ⟨q0, q1, q2, q3⟩ := Z1.out _ hb2
    have hw2 := HB2.out.size
    have hwx := hb2.size
    have hlt : w.heap.size < w2.heap.size := World.block_lt_of_cell? _ _ q0
    have hlt1 : w.heap.size + 1 < w2.heap.size := World.block_lt_of_cell? _ _ q3
    have TW : Hid (∀ W, Below w2.heap.size w2 W → W.cell? ⟨w2.heap.size, 0, none⟩ = some (.map (some (w1.heap.size + 1))) → Calls Try.prog 83 #[.agg #[.int .i64 t.1, .slice a n c, .slice b m d], .func (.func 84) #[] #[.pointer (some ⟨w2.heap.size, 0, none⟩), .pointer (some ⟨w.heap.size + 1, 0, none⟩)]] W fun e w' => ∃ v, e = .returned v ∧ Hid (w'.ownsRow W.heap.size 2 1 v (selL t.2.1 (fun x => levH (hisL t.2.2 x) f1 != 0) n).length ((selL t.2.1 (fun x => levH (hisL t.2.2 x) f1 != 0) n).map (Value.int .i64))) ∧ Below W.heap.size W w') := fun W hW hc =>
      wherePush_any t a b n c m d w2.heap.size (w.heap.size + 1) (fun x => levH (hisL t.2.2 x) f1 != 0) W hn (HA.out _ (HB2.out.trans (hW.mono hw2))) hs (fun W' hW' x hx =>
        pushFn_any w2.heap.size (w.heap.size + 1) (w1.heap.size + 1) m V t.2.2 f1 x W' (hV.below (hW.trans (hW'.mono hW.size))) HPW.out (by rw [hm.out]; exact hs2) (wf.out.2.1 x hx) (keepS hW' hc) (Z1.out _ (hb2.trans ((hW.trans (hW'.mono hW.size)).mono hwx))).2.2.2)
    clear hV hb2 Z1
    go_wp2_with fail
    refine (TW.out _ (by repeat (first | exact Below.refl _ _ | refine Below.alloc ?_ (by simp; try omega) _ | refine Below.setCell ?_ (by simp; try omega) _)) (by simp [go_sem])).mono ?_
    rintro e w3 ⟨v, rfl, HO, hb3⟩
    have HB3 : Hid (Below w.heap.size w w3) := Below.trans (by repeat (first | exact HB2.out | refine Below.alloc ?_ (by first | omega | (simp; done) | (simp; omega)) _ | refine Below.setCell ?_ (by first | omega | (simp; done) | (simp; omega)) _)) (hb3.mono (by simp; try omega))
    have HO2 := Lib.hid (own_lo (lo' := w.heap.size) HO.out (by simp; try omega))
    clear hb3 HO
    go_wp2
    go_ret2
    exact givesIs_of HR.out HB3.out rfl HO2.out
  · have HR : Hid (pushR t f1 = ([], rangeCode (zc t) f1 10000)) := by unfold Hid pushR; rw [if_neg e3]
    clear e3
    go_wp2
    go_ret2
    exact givesIs_nil HR.out HB1.out
end Go.Proofs.Ytfejgckimlgopaa
