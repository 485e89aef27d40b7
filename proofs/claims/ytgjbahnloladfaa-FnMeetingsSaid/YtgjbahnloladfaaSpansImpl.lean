/-
  SpansOf: the program's walk.
-/
import Derived.Test.YtgjbahnloladfaaSpans6
namespace Go.Proofs.Ytgjbahnloladfaa
open Go.RowKit

theorem Box.grown {w w' : World} {b : Nat} {vs : List Value} {row : Option Nat} (h : Box w b vs) (hg : w.grownBy w' row) (hne : some b ≠ row) : Box w' b vs :=
  ⟨Nat.lt_of_lt_of_le h.1 hg.size, fun j v hj => hg.cell (a := ⟨b, j, none⟩) (h.2 j v hj) hne⟩
set_option maxHeartbeats 8000000 in
theorem implSpansOf_any (w : World) {a0 : Option Addr} {n0 c0 : Nat} (l0 : List Int) (hn0 : Hid (l0.length = n0)) (h0 : RI w a0 l0) (hs0 : n0 ≤ 1048576) (_wf0 : Hid (∀ k ∈ l0, (Lit.int .i64 k).wf = true)) {a1 : Option Addr} {n1 c1 : Nat} (t1 : TRun) (hn1 : Hid (t1.1.length = n1)) (h1 : RI w a1 t1.1) (hs1 : n1 ≤ 1048576) (_wf1 : Hid (wfRun t1)) :
    Calls Try.prog 15 #[.slice a0 n0 c0, .agg #[.slice a1 n1 c1, .int .i64 t1.2]] w (GivesSpans (spansOf l0 t1) w) := by
  obtain ⟨way, s⟩ := t1
  dsimp only at hn1 h1 ⊢
  have HA : Hid (∀ w', Below w.heap.size w w' → RI w' a0 l0) := fun w' h => h0.below h
  have HB : Hid (∀ w', Below w.heap.size w w' → RI w' a1 way) := fun w' h => h1.below h
  have OK : Hid (∀ W B, Below w.heap.size w W → B = W.heap.size → Calls Try.prog 46 #[.slice a0 n0 c0, .slice (some ⟨B, 0, none⟩) 1 1] (W.alloc (.cells #[.slice a1 n1 c1, .int .i64 s] 34)) fun e w' => e = .returned (.int .i64 (rcode l0 [(way, s)])) ∧ Below (W.alloc (.cells #[.slice a1 n1 c1, .int .i64 s] 34)).heap.size (W.alloc (.cells #[.slice a1 n1 c1, .int .i64 s] 34)) w') := fun W B h hB => by
    subst hB
    exact checkRuns_any a0 _ l0 [(way, s)] n0 c0 1 1 _ hn0 (HA.out _ (h.alloc h.size _)) hs0 rfl (RN.one hn1.out (HB.out _ h) hs1 _) (by omega)
  clear h0 h1
  cases hv : rsB l0 [(way, s)] with
  | false =>
    have HC : rcode l0 [(way, s)] = 1 := by unfold rcode; rw [hv]; rfl
    rw [HC] at OK
    have HR := Lib.hid (spansOf_bad hv)
    clear HC hv
    go_enter Try.func15, Try.ntmps15
    go_wp2_with (go_at_call 46; refine (OK.out (w.alloc (.cells #[.slice a1 n1 c1, .int .i64 s] 34)) _ (by repeat (first | exact Below.refl _ _ | refine Below.alloc ?_ (by simp; try omega) _ | refine Below.setCell ?_ (by simp; try omega) _)) (by simp)).mono ?_; rintro e w1 ⟨rfl, hb1⟩)
    go_ret2
    exact givesSpans_nil HR.out (Below.trans (by repeat (first | exact Below.refl _ _ | refine Below.alloc ?_ (by simp; try omega) _ | refine Below.setCell ?_ (by simp; try omega) _)) (hb1.mono (by simp; omega)))
  | true =>
    have HC : rcode l0 [(way, s)] = 0 := by unfold rcode; rw [hv]; rfl
    rw [HC] at OK
    have HR := Lib.hid (spansOf_good hv)
    have HOK := Lib.hid (rsB_one hv)
    have hm1 : 1 ≤ n1 := by have := HOK.out.ways; rw [hn1.out] at this; omega
    have hm2 : n1 ≤ 12 := by have := HOK.out.ways; rw [hn1.out] at this; omega
    have HPO : Hid (∀ W, Below w.heap.size w W → Calls Try.prog 48 #[.slice a0 n0 c0, .agg #[.slice a1 n1 c1, .int .i64 s]] W (GivesR 72 3 cPass (passOf l0 (way, s)) n1 W)) := fun W h => passagesOf_any a0 a1 l0 way s n0 c0 n1 c1 W hn0 (HA.out _ h) hn1 (HB.out _ h) HOK.out
    have HI : Hid (∃ i0 : TypeInfo, Try.prog.info? 24 = some i0 ∧ i0.zero = some (.slice none 0 0) ∧ i0.size = 1 ∧ i0.bytes = 24) := info_parts info24
    clear HC hv
    go_enter Try.func15, Try.ntmps15
    go_wp2_with (go_at_call 46; refine (OK.out (w.alloc (.cells #[.slice a1 n1 c1, .int .i64 s] 34)) _ (by repeat (first | exact Below.refl _ _ | refine Below.alloc ?_ (by simp; try omega) _ | refine Below.setCell ?_ (by simp; try omega) _)) (by simp)).mono ?_; rintro e w1 ⟨rfl, hb1⟩; obtain ⟨hc, hf⟩ := bcell hb1; have hz1 := hb1.size; simp at hz1; have hlt0 : w.heap.size < w1.heap.size := by omega)
    have B1 := Lib.hid (Below.trans (by repeat (first | exact Below.refl _ _ | refine Below.alloc ?_ (by simp; try omega) _ | refine Below.setCell ?_ (by simp; try omega) _)) (hb1.mono (by simp; omega)) : Below w.heap.size w w1)
    clear hc hf hb1
    refine (HPO.out _ B1.out).mono ?_
    rintro e w2 ⟨g, rfl, hg, hb2, ho2⟩
    have HRR := Lib.hid (own_RR cPass_len (passRR_len (t := (way, s)) hn1.out) ho2)
    have B2 := Lib.hid (two_worlds B1.out hb2)
    have hw2 : w.heap.size ≤ w2.heap.size := B2.out.size
    clear hb2 ho2 hz1 hlt0 hg OK HPO B1
    go_wp2
    go_loopw [7, 21] (fun ov iv wr => ∃ (k : Nat) (ao : Option Addr) (co : Nat), k ≤ n1 ∧ iv = .int .i64 k ∧ ov = .slice ao k co ∧ Below w2.heap.size w2 wr ∧ Hid (OwLL w2.heap.size wr.heap.size (.slice ao k co) (((passOf l0 (way, s)).take k).map rowOf) wr)) (fun _ iv _ => n1 - (intOf iv).toNat)
    case atStart => exact ⟨0, none, 0, by omega, rfl, rfl, Below.refl _ _, OwN.nil _ _ _⟩
    case round =>
      obtain ⟨k, ao, co, hk, rfl, rfl, hbel, HO⟩ := hrel
      have hbw := hbel.size
      by_cases hlt : k < n1
      · have hka : k < way.length := by rw [hn1.out]; exact hlt
        have hkp : k < (passOf l0 (way, s)).length := by rw [passOf_length]; exact hka
        have HTK := rows_take (l := l0) (t := (way, s)) (k := k) hka
        dsimp only at HTK
        have HKL : Hid ((((passOf l0 (way, s)).take k).map rowOf).length = k) := by unfold Hid; rw [List.length_map, List.length_take, passOf_length]; dsimp only; omega
        obtain ⟨b, off, hbe, hbl, hc⟩ := HRR.out.addr (by omega)
        injection hbe with hbe
        injection hbe with e1 e2
        subst e1 e2
        have x0 := (hbel.cell (p := ⟨g, 0 + k * 3 + 0, none⟩) hbl).trans (hc k hkp 0 _ rfl)
        have x1 := (hbel.cell (p := ⟨g, 0 + k * 3 + 1, none⟩) hbl).trans (hc k hkp 1 _ rfl)
        have x2 := (hbel.cell (p := ⟨g, 0 + k * 3 + 2, none⟩) hbl).trans (hc k hkp 2 _ rfl)
        rw [passOf_get l0 (way, s) k hka] at x0 x1 x2
        simp only [Nat.zero_add, Nat.add_zero] at x0 x1 x2
        clear hc
        generalize tickAt l0 way s k = tk at x0 HTK
        generalize tickAt l0 way s (k + 1) = tl at x1 HTK
        generalize way[k] = x at x2 HTK
        have HAPP : Hid (∀ W, Below wr.heap.size wr W → _) := fun W hW => row_grow (W := W) x tk tl HO.out hbw HKL.out hW
        rw [← HTK] at HAPP
        have HBEL := Lib.hid hbel
        clear hbel HTK
        have hk0 : (0 : Int) ≤ (k : Int) := by omega
        have hk1 : (k : Int) < (n1 : Int) := by omega
        have PB := Box.alloc wr [.int .i64 tk, .int .i64 tl, .int .i64 x] 72
        have PBX := Lib.hid (Box.below PB ((Below.refl _ _).drew))
        have hW : Below wr.heap.size wr (wr.alloc (.cells #[.int .i64 tk, .int .i64 tl, .int .i64 x] 72)).drew := ((Below.refl _ _).alloc (Nat.le_refl _) _).drew
        have HW := Lib.hid hW
        have hsx : wr.heap.size ≤ (wr.alloc (.cells #[.int .i64 tk, .int .i64 tl, .int .i64 x] 72)).drew.heap.size := hW.size
        clear PB hW
        go_wp2
        go_region_held3 (fun w' => w'.cell? ⟨wr.heap.size, 0, none⟩ = some (.int .i64 tk) ∧ w'.cell? ⟨wr.heap.size, 1, none⟩ = some (.int .i64 tl) ∧ w'.cell? ⟨wr.heap.size, 2, none⟩ = some (.int .i64 x))
          (first | exact ⟨PBX.out.2 0 _ rfl, PBX.out.2 1 _ rfl, PBX.out.2 2 _ rfl⟩ | exact ⟨(PBX.out.below hb3).2 0 _ rfl, (PBX.out.below hb3).2 1 _ rfl, (PBX.out.below hb3).2 2 _ rfl⟩ | exact ⟨(PBX.out.below (two_worlds hb3 hb4)).2 0 _ rfl, (PBX.out.below (two_worlds hb3 hb4)).2 1 _ rfl, (PBX.out.below (two_worlds hb3 hb4)).2 2 _ rfl⟩ | exact ⟨((PBX.out.below (two_worlds hb3 hb4)).below ((Below.refl _ _).alloc (Nat.le_refl _) _)).2 0 _ rfl, ((PBX.out.below (two_worlds hb3 hb4)).below ((Below.refl _ _).alloc (Nat.le_refl _) _)).2 1 _ rfl, ((PBX.out.below (two_worlds hb3 hb4)).below ((Below.refl _ _).alloc (Nat.le_refl _) _)).2 2 _ rfl⟩ | exact ⟨((PBX.out.below (two_worlds hb3 hb4)).below (((Below.refl _ _).alloc (Nat.le_refl _) _).alloc (by simp) _)).2 0 _ rfl, ((PBX.out.below (two_worlds hb3 hb4)).below (((Below.refl _ _).alloc (Nat.le_refl _) _).alloc (by simp) _)).2 1 _ rfl, ((PBX.out.below (two_worlds hb3 hb4)).below (((Below.refl _ _).alloc (Nat.le_refl _) _).alloc (by simp) _)).2 2 _ rfl⟩ | exact ⟨(P5.out).2 0 _ rfl, (P5.out).2 1 _ rfl, (P5.out).2 2 _ rfl⟩)
          (first | (go_at_call 49; refine (stayBegin_any _ _ _).mono ?_; rintro e w3 ⟨rfl, hb3⟩) | (go_at_call 50; refine (stayEnd_any _ _ _).mono ?_; rintro e w4 ⟨rfl, hb4⟩; have hb24 := HW.out.trans ((two_worlds hb3 hb4).mono hsx); have HB4 := Lib.hid hb24; clear hb24) | ((with_reducible_and_instances show (if Region.wanted { dst := some 36, op := _, type := _, pos := _, after := _, guard := none } _ = true then _ else _)); obtain ⟨xs, hox, hnext⟩ := HAPP.out w4 HB4.out; refine step_append_lies _ (by rfl) _ _ 30 (by rfl) w2.heap.size 24 HI.out.choose (.slice none 0 0) 1 24 Try.underlying30 HI.out.choose_spec.1 HI.out.choose_spec.2.1 HI.out.choose_spec.2.2.1 HI.out.choose_spec.2.2.2 rfl (by decide) (.slice ao k co) k xs (by rfl) hox ⟨w4.heap.size + 1, 0, none⟩ 1 1 [.slice (some ⟨w4.heap.size, 0, none⟩) 3 3] (by rfl) rfl (World.news_of_block (heap_alloc_at _ _ _ (by simp))) (by intro u hu; simp at hu; subst hu; rfl) (by decide) (by unfold maxLen; omega) (by omega) (by have := HB4.out.size; simp; omega) _ rfl ?_; intro g2 cap w5 hown1 hgrow hat hlt5; obtain ⟨hN, hB5⟩ := hnext g2 cap w5 hown1 hgrow (by simpa using hat) hlt5; have P5 := Lib.hid (Box.grown ((PBX.out.below (two_worlds hb3 hb4)).below (((Below.refl _ _).alloc (Nat.le_refl _) _).alloc (by simp) _)) hgrow (fun e => by have := HO.out.bounds _ e.symm; omega)); have HN5 := Lib.hid hN; have HB5 := Lib.hid hB5; clear hown1 hgrow hat hlt5 hN hB5))
        all_goals
          have HB6 := Lib.hid (HBEL.out.trans HB5.out)
          clear hb3 hb4 x0 x1 x2
          go_wp2
          go_roundw
          case rel => exact ⟨k + 1, _, _, by omega, by go_num, rfl, HB6.out, HN5.out⟩
          case measure => simp [intOf]; omega
      · have hkm : k = n1 := by omega
        subst hkm
        have HO2 : Hid (OwLL w.heap.size wr.heap.size (.slice ao k co) ((passOf l0 (way, s)).map rowOf) wr) := by
          have := HO.out
          rw [List.take_of_length_le (by rw [passOf_length]; dsimp only; rw [hn1.out]; omega)] at this
          exact this.widen hw2 (Nat.le_refl _)
        have HBX := Lib.hid (B2.out.trans (hbel.mono hw2))
        go_wp2
        go_ret2
        exact givesSpans_of (v := .slice ao k co) HR.out HBX.out HO2.out
end Go.Proofs.Ytgjbahnloladfaa
