/-
  WornSeals: the model's walk and the program's.
-/
import Derived.Test.YtabopjdcpllocaaRunCar
namespace Go.Proofs.Ytabopjdcpllocaa
open Go.RowKit

def wornAt (ts : List TSeal) : Nat → List Int
  | 0 => []
  | k + 1 => if (ts.getD k (0, 0)).1 = (ts.getD k (0, 0)).2 then wornAt ts k ++ [(k : Int)] else wornAt ts k
theorem wornAt_hit {ts : List TSeal} {k : Nat} (hk : k < ts.length) (h : ts[k].1 = ts[k].2) : wornAt ts (k + 1) = wornAt ts k ++ [(k : Int)] := by
  rw [wornAt, List.getD_eq_getElem?_getD, List.getElem?_eq_getElem hk, Option.getD_some, if_pos h]
theorem wornAt_miss {ts : List TSeal} {k : Nat} (hk : k < ts.length) (h : ¬ ts[k].1 = ts[k].2) : wornAt ts (k + 1) = wornAt ts k := by
  rw [wornAt, List.getD_eq_getElem?_getD, List.getElem?_eq_getElem hk, Option.getD_some, if_neg h]
theorem wornAt_len (ts : List TSeal) (k : Nat) : (wornAt ts k).length ≤ k := by
  induction k with
  | zero => simp [wornAt]
  | succ k ih =>
    rw [wornAt]
    split
    · simp; omega
    · omega
def wornOf (ts : List TSeal) : List Int × Int := if slB ts = true then (wornAt ts ts.length, 0) else ([], 1)
theorem wornOf_bad {ts : List TSeal} (h : slB ts = false) : wornOf ts = ([], 1) := by unfold wornOf; rw [h]; rfl
theorem wornOf_good {ts : List TSeal} (h : slB ts = true) : wornOf ts = (wornAt ts ts.length, 0) := by unfold wornOf; rw [h]; rfl
theorem wornOf_len (ts : List TSeal) (h : ts.length ≤ 1048576) : (wornOf ts).1.length ≤ 1048576 := by
  unfold wornOf
  split
  · exact Nat.le_trans (wornAt_len _ _) h
  · simp
theorem news_one (w : World) (z : Value) (e : TypeId) : ∀ j u, [z][j]? = some u → (w.alloc (.cells #[z] e)).cell? ((⟨w.heap.size, 0, none⟩ : Addr).add j) = some u := by
  rintro (_ | j) u h
  · simp at h; subst h; simp [go_sem]
  · simp at h
theorem own_below {w w' : World} {lo : Nat} {e : TypeId} {size n : Nat} {v : Value} {xs : List Value} (h : w.ownsRow lo e size v n xs) (hb : Below w.heap.size w w') : w'.ownsRow lo e size v n xs :=
  h.kept (grown_below hb none) (by cases v.ownBlock <;> simp)

set_option maxHeartbeats 2000000 in
theorem specWornSeals_any (w : World) {a0 : Option Addr} {n0 c0 : Nat} (ts0 : List TSeal) (hn0 : Hid (ts0.length = n0)) (h0 : RR 2 cSeal w a0 ts0) (hs0 : n0 ≤ 1048576) (_wf0 : Hid (∀ t ∈ ts0, wfSeal t)) :
    Calls Try.prog 20 #[.slice a0 n0 c0] w (GivesIs 2 (wornOf ts0) w) := by
  have HA : Hid (∀ w', Below w.heap.size w w' → RR 2 cSeal w' a0 ts0) := fun w' h => h0.below h
  have HI : Hid (∃ i0 : TypeInfo, Try.prog.info? 2 = some i0 ∧ i0.zero = some (.int .i64 0) ∧ i0.size = 1 ∧ i0.bytes = 8) := info_parts info2
  have SE := l07Seals_any a0 ts0 n0 c0 w hn0 h0 hs0
  clear h0
  cases hv : slB ts0 with
  | false =>
    rw [hv] at SE
    have HR := Lib.hid (wornOf_bad hv)
    clear hv
    go_enter Try.func20, Try.ntmps20
    go_wp2_with (go_at_call 36; refine SE.mono ?_; rintro e w1 ⟨rfl, hb1⟩)
    go_ret2
    exact givesIs_nil HR.out hb1
  | true =>
    have HV := Lib.hid hv
    have HR : Hid (wornOf ts0 = (wornAt ts0 n0, 0)) := by unfold Hid; rw [wornOf_good hv, hn0.out]
    rw [hv] at SE
    have hfew : n0 ≤ 60 := by have := slB_few hv; rw [hn0.out] at this; exact this
    clear hv
    go_enter Try.func20, Try.ntmps20
    go_wp2_with (go_at_call 36; refine SE.mono ?_; rintro e w1 ⟨rfl, hb1⟩)
    have HB1 := Lib.hid hb1
    have hw1 := HB1.out.size
    clear hb1 SE
    go_loopw [4, 5] (fun vo iv wr => ∃ (k i cap : Nat) (ao : Option Addr) (l : List Int), k ≤ n0 ∧ i ≤ k ∧ vo = .slice ao i cap ∧ iv = .int .i64 (k : Int) ∧ Hid (Below w.heap.size w wr) ∧ Hid (l = wornAt ts0 k) ∧ Hid (l.length = i) ∧ Hid (wr.ownsRow w.heap.size 2 1 (.slice ao i cap) i (l.map (Value.int .i64)))) (fun _ iv _ => n0 - (intOf iv).toNat)
    case atStart => exact ⟨0, 0, 0, _, [], by omega, by omega, rfl, rfl, (by repeat (first | exact HB1.out | refine Below.alloc ?_ (by first | omega | (simp; done) | (simp; omega)) _ | refine Below.setCell ?_ (by first | omega | (simp; done) | (simp; omega)) _)), rfl, rfl, World.ownsRow_made w1 #[] 0 hw1 (by unfold maxLen; omega) rfl⟩
    case round =>
      obtain ⟨k, i, cap, ao, l, hk, hik, rfl, rfl, HBEL, HL, HLEN, HOWN⟩ := hrel
      by_cases hlt : k < n0
      · have hka : k < ts0.length := by rw [hn0.out]; exact hlt
        have HHIT : Hid (ts0[k].1 = ts0[k].2 → wornAt ts0 (k + 1) = wornAt ts0 k ++ [(k : Int)]) := fun h => wornAt_hit hka h
        have HMISS : Hid (¬ ts0[k].1 = ts0[k].2 → wornAt ts0 (k + 1) = wornAt ts0 k) := fun h => wornAt_miss hka h
        obtain ⟨b, off, rfl, _, hc⟩ := (HA.out _ HBEL.out).at_ k hka
        have x0 := hc 0 _ rfl
        have x1 := hc 1 _ rfl
        simp only [Nat.add_zero] at x0
        clear hc
        generalize ts0[k] = t at x0 x1 HHIT HMISS
        obtain ⟨t1, t2⟩ := t
        dsimp only at x0 x1 HHIT HMISS
        have hk0 : (0 : Int) ≤ (k : Int) := by omega
        have hk1 : (k : Int) < (n0 : Int) := by omega
        rcases eq_ways t1 t2 with ⟨⟨e4, e5⟩, e6⟩ | ⟨⟨e4, e5⟩, e6⟩
        · have HN := Lib.hid (HHIT.out e6)
          clear HHIT HMISS e6
          go_wp2_with fail
          go_quiet (fail)
          have HB2 : Hid (Below w.heap.size w (wr.drewN nq)) := Below.drewN' HBEL.out _
          have HO2 : Hid ((wr.drewN nq).ownsRow w.heap.size 2 1 (.slice ao i cap) i (l.map (Value.int .i64))) := HOWN.out
          clear x0 x1
          generalize wr.drewN nq = w2 at HB2 HO2
          have hw2 := HB2.out.size
          have HGE : Hid (∀ q, (Value.slice ao i cap).ownBlock = some q → w.heap.size ≤ q) := fun q hq => (HO2.out.lt q hq).1
          go_wp2_with (at_builtin; refine wpList_append_lies _ rfl _ _ 35 rfl w.heap.size 2 HI.out.choose (.int .i64 0) 1 8 Try.underlying35 HI.out.choose_spec.1 HI.out.choose_spec.2.1 HI.out.choose_spec.2.2.1 HI.out.choose_spec.2.2.2 rfl (by decide) (.slice ao i cap) i (l.map (Value.int .i64)) rfl (HO2.out.alloc _) ⟨w2.heap.size, 0, none⟩ 1 1 [.int .i64 (k : Int)] rfl rfl (news_one _ _ _) (by intro u hu; simp at hu; subst hu; rfl) (by omega) (by unfold maxLen; omega) (by omega) (by simp; omega) (w2.heap.size + 1) (by simp) ?_)
          intro g cap' w3 hown1 hgrow hat hlt2
          have B5 : Hid (Below w.heap.size w w3) := (HB2.out.alloc hw2 _).grown hgrow (by simp; omega) HGE.out
          have O1 : Hid (w3.ownsRow w.heap.size 2 1 (.slice (some ⟨g, 0, none⟩) (i + 1) cap') (i + 1) ((l ++ [(k : Int)]).map (Value.int .i64))) := by
            unfold Hid; rw [List.map_append]; exact hown1
          clear hown1 hgrow hat hlt2
          go_wp2
          go_roundw
          case rel => exact ⟨k + 1, i + 1, cap', _, l ++ [(k : Int)], by omega, by omega, rfl, by go_num, B5, by unfold Hid; rw [HN.out, ← HL.out], by unfold Hid; rw [List.length_append, HLEN.out]; rfl, O1⟩
          case measure => simp [intOf]; omega
        · have HN := Lib.hid (HMISS.out e6)
          clear HHIT HMISS e6
          go_wp2_with fail
          go_quiet (fail)
          go_wp2
          go_roundw
          case rel => exact ⟨k + 1, i, cap, ao, l, by omega, by omega, rfl, by go_num, Below.drewN' HBEL.out _, by unfold Hid; rw [HN.out, ← HL.out], HLEN, HOWN⟩
          case measure => simp [intOf]; omega
      · have hkn : k = n0 := by omega
        subst hkn
        go_wp2
        go_ret2
        exact givesIs_of (by rw [HR.out, ← HL.out]) HBEL.out HLEN.out HOWN.out

set_option maxHeartbeats 2000000 in
theorem implWornSeals_any (w : World) {a0 : Option Addr} {n0 c0 : Nat} (ts0 : List TSeal) (hn0 : Hid (ts0.length = n0)) (h0 : RR 2 cSeal w a0 ts0) (hs0 : n0 ≤ 1048576) (_wf0 : Hid (∀ t ∈ ts0, wfSeal t)) :
    Calls Try.prog 21 #[.slice a0 n0 c0] w (GivesIs 2 (wornOf ts0) w) := by
  have HA : Hid (∀ w', Below w.heap.size w w' → RR 2 cSeal w' a0 ts0) := fun w' h => h0.below h
  have HI : Hid (∃ i0 : TypeInfo, Try.prog.info? 2 = some i0 ∧ i0.zero = some (.int .i64 0) ∧ i0.size = 1 ∧ i0.bytes = 8) := info_parts info2
  have SE := checkSeals_any a0 ts0 n0 c0 w hn0 h0 hs0
  clear h0
  cases hv : slB ts0 with
  | false =>
    have HC : scode ts0 = 1 := by unfold scode; rw [hv]; rfl
    rw [HC] at SE
    have HR := Lib.hid (wornOf_bad hv)
    clear hv HC
    go_enter Try.func21, Try.ntmps21
    go_wp2_with (go_at_call 42; refine SE.mono ?_; rintro e w1 ⟨rfl, hb1⟩)
    go_ret2
    exact givesIs_nil HR.out hb1
  | true =>
    have HC : scode ts0 = 0 := by unfold scode; rw [hv]; rfl
    have HV := Lib.hid hv
    have HR : Hid (wornOf ts0 = (wornAt ts0 n0, 0)) := by unfold Hid; rw [wornOf_good hv, hn0.out]
    rw [HC] at SE
    have hfew : n0 ≤ 60 := by have := slB_few hv; rw [hn0.out] at this; exact this
    clear hv HC
    go_enter Try.func21, Try.ntmps21
    go_wp2_with (go_at_call 42; refine SE.mono ?_; rintro e w1 ⟨rfl, hb1⟩)
    have HB1 := Lib.hid hb1
    have hw1 := HB1.out.size
    clear hb1 SE
    go_loopw [5, 15] (fun vo iv wr => ∃ (k i cap : Nat) (ao : Option Addr) (l : List Int), k ≤ n0 ∧ i ≤ k ∧ vo = .slice ao i cap ∧ iv = .int .i64 (k : Int) ∧ Hid (Below w.heap.size w wr) ∧ Hid (l = wornAt ts0 k) ∧ Hid (l.length = i) ∧ Hid (wr.ownsRow w.heap.size 2 1 (.slice ao i cap) i (l.map (Value.int .i64)))) (fun _ iv _ => n0 - (intOf iv).toNat)
    case atStart => exact ⟨0, 0, 0, none, [], by omega, by omega, rfl, rfl, HB1, rfl, rfl, by unfold Hid; simpa using World.ownsRow_nil w1 w.heap.size 2 1⟩
    case round =>
      obtain ⟨k, i, cap, ao, l, hk, hik, rfl, rfl, HBEL, HL, HLEN, HOWN⟩ := hrel
      by_cases hlt : k < n0
      · have hka : k < ts0.length := by rw [hn0.out]; exact hlt
        have HHIT : Hid (ts0[k].1 = ts0[k].2 → wornAt ts0 (k + 1) = wornAt ts0 k ++ [(k : Int)]) := fun h => wornAt_hit hka h
        have HMISS : Hid (¬ ts0[k].1 = ts0[k].2 → wornAt ts0 (k + 1) = wornAt ts0 k) := fun h => wornAt_miss hka h
        obtain ⟨b, off, rfl, _, hc⟩ := (HA.out _ HBEL.out).at_ k hka
        have x0 := hc 0 _ rfl
        have x1 := hc 1 _ rfl
        simp only [Nat.add_zero] at x0
        clear hc
        generalize ts0[k] = t at x0 x1 HHIT HMISS
        obtain ⟨t1, t2⟩ := t
        dsimp only at x0 x1 HHIT HMISS
        have hk0 : (0 : Int) ≤ (k : Int) := by omega
        have hk1 : (k : Int) < (n0 : Int) := by omega
        have hws := HBEL.out.size
        have IW := fun W => isWorn_any t1 t2 W
        by_cases e6 : t1 = t2
        · have HN := Lib.hid (HHIT.out e6)
          simp only [decide_eq_true e6] at IW
          clear HHIT HMISS e6
          go_wp2_with (first | (go_at_call 43; refine (IW _).mono ?_; rintro e w2 ⟨rfl, hb2⟩; have hb3 := Below.trans (show Below wr.heap.size wr (wr.alloc (.cells #[.int .i64 t1, .int .i64 t2] 54)) from (by repeat (first | exact Below.refl _ _ | refine Below.alloc ?_ (by simp; try omega) _ | refine Below.setCell ?_ (by simp; try omega) _))) (hb2.mono (by simp)); have HB2 : Hid (Below w.heap.size w w2) := two_worlds HBEL.out hb3; have HO2 : Hid (w2.ownsRow w.heap.size 2 1 (.slice ao i cap) i (l.map (Value.int .i64))) := own_below HOWN.out hb3; have HGE : Hid (∀ q, (Value.slice ao i cap).ownBlock = some q → w.heap.size ≤ q) := fun q hq => (HO2.out.lt q hq).1; have hw2 := HB2.out.size; clear hb2 hb3 x0 x1) | (at_builtin; refine wpList_append_lies _ rfl _ _ 35 rfl w.heap.size 2 HI.out.choose (.int .i64 0) 1 8 Try.underlying35 HI.out.choose_spec.1 HI.out.choose_spec.2.1 HI.out.choose_spec.2.2.1 HI.out.choose_spec.2.2.2 rfl (by decide) (.slice ao i cap) i (l.map (Value.int .i64)) rfl (HO2.out.alloc _) ⟨w2.heap.size, 0, none⟩ 1 1 [.int .i64 (k : Int)] rfl rfl (news_one _ _ _) (by intro u hu; simp at hu; subst hu; rfl) (by omega) (by unfold maxLen; omega) (by omega) (by simp; omega) (w2.heap.size + 1) (by simp) ?_))
          intro g cap' w3 hown1 hgrow hat hlt2
          have B5 : Hid (Below w.heap.size w w3) := (HB2.out.alloc hw2 _).grown hgrow (by simp; omega) HGE.out
          have O1 : Hid (w3.ownsRow w.heap.size 2 1 (.slice (some ⟨g, 0, none⟩) (i + 1) cap') (i + 1) ((l ++ [(k : Int)]).map (Value.int .i64))) := by
            unfold Hid; rw [List.map_append]; exact hown1
          clear hown1 hgrow hat hlt2
          go_wp2
          go_roundw
          case rel => exact ⟨k + 1, i + 1, cap', _, l ++ [(k : Int)], by omega, by omega, rfl, by go_num, B5, by unfold Hid; rw [HN.out, ← HL.out], by unfold Hid; rw [List.length_append, HLEN.out]; rfl, O1⟩
          case measure => simp [intOf]; omega
        · have HN := Lib.hid (HMISS.out e6)
          simp only [decide_eq_false e6] at IW
          clear HHIT HMISS e6
          go_wp2_with (go_at_call 43; refine (IW _).mono ?_; rintro e w2 ⟨rfl, hb2⟩)
          have hb3 := Below.trans (show Below wr.heap.size wr (wr.alloc (.cells #[.int .i64 t1, .int .i64 t2] 54)) from (by repeat (first | exact Below.refl _ _ | refine Below.alloc ?_ (by simp; try omega) _ | refine Below.setCell ?_ (by simp; try omega) _))) (hb2.mono (by simp))
          have HB2 : Hid (Below w.heap.size w w2) := two_worlds HBEL.out hb3
          have HO2 : Hid (w2.ownsRow w.heap.size 2 1 (.slice ao i cap) i (l.map (Value.int .i64))) := own_below HOWN.out hb3
          clear hb2 hb3 x0 x1
          go_wp2
          go_roundw
          case rel => exact ⟨k + 1, i, cap, ao, l, by omega, by omega, rfl, by go_num, HB2, by unfold Hid; rw [HN.out, ← HL.out], HLEN, HO2⟩
          case measure => simp [intOf]; omega
      · have hkn : k = n0 := by omega
        subst hkn
        go_wp2
        go_ret2
        exact givesIs_of (by rw [HR.out, ← HL.out]) HBEL.out HLEN.out HOWN.out
end Go.Proofs.Ytabopjdcpllocaa
