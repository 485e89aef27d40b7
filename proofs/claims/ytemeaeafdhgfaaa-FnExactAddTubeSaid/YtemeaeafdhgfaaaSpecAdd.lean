/-
  The walk of the model's AddTube: it hands back what the program's does.
-/
import Derived.Test.YtemeaeafdhgfaaaAddTube
namespace Go.Proofs.Ytemeaeafdhgfaaa
open Go.RowKit

set_option maxRecDepth 100000 in
set_option maxHeartbeats 1000000 in
theorem specAddTube_any (s : Int) (t : T3) (b : Nat) (ts : List T3) (n ca : Nat) (w : World) (hn : Hid (ts.length = n)) (ha : RT w (some ⟨b, 0, none⟩) ts) (hmax : n ≤ 1048576) :
    Calls Try.prog 31 #[.agg #[.int .i64 s, .slice (some ⟨b, 0, none⟩) n ca], .agg #[.int .i64 t.1, .int .i64 t.2.1, .int .i64 t.2.2]] w (GivesAdd (addOf s ts t) w) := by
  have HA : Hid (∀ w', Below w.heap.size w w' → RT w' (some ⟨b, 0, none⟩) ts) := fun w' h => ha.below h
  clear ha
  cases hv : netB s ts with
  | false =>
    have HR := Lib.hid (addOf_inv (t := t) hv)
    go_enter Try.func31, Try.ntmps31
    go_wp2_with fail
    refine (l02Ok_any _ s _ ts n ca _ hn (HA.out _ (boxes_below _ _ _ _ _ _ _ _)) hmax (by simp [go_sem]) (by simp [go_sem])).mono ?_
    rintro e w1 ⟨rfl, hb1⟩
    have X1 := Lib.hid ((Boxes.start w s _ n ca t _ _).below hb1)
    have B1 := Lib.hid ((boxes_below w s (some ⟨b, 0, none⟩) n ca t 34 43).trans (hb1.mono (by simp; omega)))
    obtain ⟨hl, p0, p1, t0, t1, t2, r0, r1, r2, r3⟩ := X1.out
    clear hb1
    go_wp2
    exact bodyPost_ret (v := .tuple #[.agg #[.int .i64 0, .slice none 0 0], .int .i64 1]) (by simp [results, Try.results31, go_sem, r0, r1]) rfl (givesAdd_none HR.out rfl ((B1.out.setCell (by simp; omega) _).setCell (by simp; omega) _))
  | true =>
    obtain ⟨hs1, hs2, hle, _⟩ := netB_parts hv
    rw [hn.out] at hle
    cases ht : tubeB s t with
    | false =>
      have HR := Lib.hid (addOf_range hv ht)
      go_enter Try.func31, Try.ntmps31
      go_wp2_with fail
      refine (l02Ok_any _ s _ ts n ca _ hn (HA.out _ (boxes_below _ _ _ _ _ _ _ _)) hmax (by simp [go_sem]) (by simp [go_sem])).mono ?_
      rintro e w1 ⟨rfl, hb1⟩
      have X1 := Lib.hid ((Boxes.start w s _ n ca t _ _).below hb1)
      have B1 := Lib.hid ((boxes_below w s (some ⟨b, 0, none⟩) n ca t 34 43).trans (hb1.mono (by simp; omega)))
      obtain ⟨hl, p0, p1, t0, t1, t2, r0, r1, r2, r3⟩ := X1.out
      clear hb1
      go_wp2_with fail
      refine (l02Tube_any t s _ hs1 hs2).mono ?_
      rintro e w2 ⟨rfl, hb2⟩
      have X2 := Lib.hid (X1.out.below hb2)
      have B2 := Lib.hid (two_worldsC B1.out hb2)
      clear hb2 p0 p1 t0 t1 t2 r0 r1 r2 r3
      obtain ⟨hl, p0, p1, t0, t1, t2, r0, r1, r2, r3⟩ := X2.out
      go_wp2
      exact bodyPost_ret (v := .tuple #[.agg #[.int .i64 0, .slice none 0 0], .int .i64 2]) (by simp [results, Try.results31, go_sem, r0, r1]) rfl (givesAdd_none HR.out rfl ((B2.out.setCell (by simp; omega) _).setCell (by simp; omega) _))
    | true =>
      by_cases h24 : n < 24
      · have HR := Lib.hid (addOf_ok hv ht (by rw [hn.out]; exact h24))
        have e24 : ¬ 24 ≤ (n : Int) := by omega
        go_enter Try.func31, Try.ntmps31
        go_wp2_with fail
        refine (l02Ok_any _ s _ ts n ca _ hn (HA.out _ (boxes_below _ _ _ _ _ _ _ _)) hmax (by simp [go_sem]) (by simp [go_sem])).mono ?_
        rintro e w1 ⟨rfl, hb1⟩
        have X1 := Lib.hid ((Boxes.start w s _ n ca t _ _).below hb1)
        have B1 := Lib.hid ((boxes_below w s (some ⟨b, 0, none⟩) n ca t 34 43).trans (hb1.mono (by simp; omega)))
        obtain ⟨hl, p0, p1, t0, t1, t2, r0, r1, r2, r3⟩ := X1.out
        clear hb1
        go_wp2_with fail
        refine (l02Tube_any t s _ hs1 hs2).mono ?_
        rintro e w2 ⟨rfl, hb2⟩
        have X2 := Lib.hid (X1.out.below hb2)
        have B2 := Lib.hid (two_worldsC B1.out hb2)
        clear hb2 p0 p1 t0 t1 t2 r0 r1 r2 r3
        obtain ⟨hl, p0, p1, t0, t1, t2, r0, r1, r2, r3⟩ := X2.out
        have hws : w.heap.size ≤ w2.heap.size := B2.out.size
        have hws' : w.heap.size < w2.heap.size := by omega
        have hws'' : w.heap.size + 1 < w2.heap.size := by omega
        have HW : Hid (w.heap.size + 1 + 1 < w2.heap.size) := hl
        have HI : Hid (∃ i0 : TypeInfo, Try.prog.info? 43 = some i0 ∧ i0.zero = some (.agg #[.int .i64 0, .int .i64 0, .int .i64 0]) ∧ i0.size = 3 ∧ i0.bytes = 24) := info_parts info43
        have HN : Hid (∀ w', Below w.heap.size w w' → ∀ j u, (flat ts)[j]? = some u → w'.cell? ((⟨b, 0, none⟩ : Addr).add j) = some u) := by
          intro w' hb
          rcases HA.out w' hb with rfl | ⟨b', off', e, hc⟩
          · intro j u hu; simp [flat] at hu
          · injection e with e1
            injection e1 with e2 e3
            subst e2
            subst e3
            exact RT_news hc
        have HL : Hid ((flat ts).length = n * 3) := by unfold Hid; rw [flat_length, hn.out]
        have HF : Hid (∀ u ∈ flat ts, u.oneCell' = true) := flat_one ts
        generalize hfl : flat ts = fl at HN HL HF
        have HFL := Lib.hid hfl
        clear hfl
        go_wp2_with (at_builtin; refine wpList_append_own _ rfl _ _ 32 rfl w2.heap.size 43 HI.out.choose (.agg #[.int .i64 0, .int .i64 0, .int .i64 0]) 3 24 Try.underlying32 HI.out.choose_spec.1 HI.out.choose_spec.2.1 HI.out.choose_spec.2.2.1 HI.out.choose_spec.2.2.2 rfl (by decide) (.slice (some ⟨w2.heap.size, 0, none⟩) 0 0) 0 [] rfl (World.ownsRow_made w2 #[] 0 (Nat.le_refl _) (by unfold maxLen; omega) rfl) ⟨b, 0, none⟩ n ca fl rfl HL.out (HN.out _ (B2.out.alloc hws _)) HF.out (by unfold maxLen; omega) (by omega) (by simp) ?_)
        intro v' w3 hown3 hgrow3 hne3
        obtain ⟨g3, c3, hv3, hg3⟩ := own_form hown3 hne3
        subst hv3
        have XE : Boxes w3 w.heap.size s (.slice (some ⟨b, 0, none⟩) n ca) t := (X2.out.below ((Below.refl _ _).alloc (Nat.le_refl _) _)).grown (g := w2.heap.size) hgrow3 HW.out
        have XD : Hid (Boxes w3.drew w.heap.size s (.slice (some ⟨b, 0, none⟩) n ca) t) := XE
        clear XE
        have B3 : Hid (Below w.heap.size w w3) := (B2.out.alloc hws _).grown hgrow3 (by simp; omega) (fun k hk => by simp [Value.ownBlock] at hk; omega)
        have HO3 : Hid (w3.drew.ownsRow w2.heap.size 43 3 (.slice (some ⟨g3, 0, none⟩) n c3) n fl) := by
          have h : w3.ownsRow w2.heap.size 43 3 (.slice (some ⟨g3, 0, none⟩) n c3) n fl := by simpa using hown3
          exact h
        have h23 : w2.heap.size ≤ w3.heap.size := by have := hgrow3.size; simp at this; omega
        obtain ⟨l3, p30, p31, t30, t31, t32, r30, r31, r32, r33⟩ := XD.out
        clear hown3 hgrow3 hne3 hl p0 p1 t0 t1 t2 r0 r1 r2 r3
        go_wp2_with fail
        go_region_held3 (fun w' => w'.cell? ⟨w.heap.size, 0, none⟩ = some (.int .i64 s) ∧ w'.cell? ⟨w.heap.size, 1, none⟩ = some (.slice (some ⟨b, 0, none⟩) n ca) ∧ w'.cell? ⟨w.heap.size + 1, 0, none⟩ = some (.int .i64 t.1) ∧ w'.cell? ⟨w.heap.size + 1, 1, none⟩ = some (.int .i64 t.2.1) ∧ w'.cell? ⟨w.heap.size + 1, 2, none⟩ = some (.int .i64 t.2.2))
          (first | exact five XD.out | exact five (XD.out.below ((Below.refl _ _).alloc (Nat.le_refl _) _)) | exact ⟨q50, q51, q52, q53, q54⟩ | (simp [go_sem, q50, q51, q52, q53, q54]; done))
          ((refine step_append_lies _ (by rfl) _ _ 32 (by rfl) w2.heap.size 43 HI.out.choose (.agg #[.int .i64 0, .int .i64 0, .int .i64 0]) 3 24 Try.underlying32 HI.out.choose_spec.1 HI.out.choose_spec.2.1 HI.out.choose_spec.2.2.1 HI.out.choose_spec.2.2.2 rfl (by decide) (.slice (some ⟨g3, 0, none⟩) n c3) n fl (by rfl) (HO3.out.alloc _) ⟨w3.heap.size, 0, none⟩ 1 1 [.int .i64 t.1, .int .i64 t.2.1, .int .i64 t.2.2] (by rfl) rfl (World.news_of_block (heap_alloc_new w3.drew _)) (news_one t) (by decide) (by unfold maxLen; omega) (by omega) (by simp; omega) _ rfl ?_; intro g cap w5 hown1 hgrow hat hlt; have HBW : Hid (Below w.heap.size w w5) := (B3.out.drew.alloc (by simp; omega) _).grown hgrow (by simp; omega) (fun k hk => by simp [Value.ownBlock] at hk; omega); obtain ⟨ql, q50, q51, q52, q53, q54, q55, q56, q57, q58⟩ := (XD.out.below ((Below.refl _ _).alloc (Nat.le_refl _) _)).grown (g := g3) hgrow (by have := HW.out; omega)))
        all_goals
          have hg := hown1.lt g rfl
          have HG : Hid (w.heap.size + 1 + 1 < g) := by have := HW.out; unfold Hid; omega
          have HO := Lib.hid hown1
          clear hown1 hgrow hat hlt hg
          go_wp2
          exact bodyPost_ret (v := .tuple #[.agg #[.int .i64 s, .slice (some ⟨g, 0, none⟩) (n + 1) cap], .int .i64 0]) (by simp [results, Try.results31, go_sem, q55, q56]) rfl (givesAdd_ok HR.out hn.out rfl ((HBW.out.setCell (by simp; omega) _).setCell (by simp; omega) _) (by rw [HFL.out]; exact own_lo (ownsRow_setCell_other (ownsRow_setCell_other HO.out (by have := HG.out; simp [Value.ownBlock]; omega) _) (by have := HG.out; simp [Value.ownBlock]; omega) _) hws))
      · have HR := Lib.hid (addOf_full hv ht (by rw [hn.out]; exact h24))
        have e24 : 24 ≤ (n : Int) := by omega
        go_enter Try.func31, Try.ntmps31
        go_wp2_with fail
        refine (l02Ok_any _ s _ ts n ca _ hn (HA.out _ (boxes_below _ _ _ _ _ _ _ _)) hmax (by simp [go_sem]) (by simp [go_sem])).mono ?_
        rintro e w1 ⟨rfl, hb1⟩
        have X1 := Lib.hid ((Boxes.start w s _ n ca t _ _).below hb1)
        have B1 := Lib.hid ((boxes_below w s (some ⟨b, 0, none⟩) n ca t 34 43).trans (hb1.mono (by simp; omega)))
        obtain ⟨hl, p0, p1, t0, t1, t2, r0, r1, r2, r3⟩ := X1.out
        clear hb1
        go_wp2_with fail
        refine (l02Tube_any t s _ hs1 hs2).mono ?_
        rintro e w2 ⟨rfl, hb2⟩
        have X2 := Lib.hid (X1.out.below hb2)
        have B2 := Lib.hid (two_worldsC B1.out hb2)
        clear hb2 p0 p1 t0 t1 t2 r0 r1 r2 r3
        obtain ⟨hl, p0, p1, t0, t1, t2, r0, r1, r2, r3⟩ := X2.out
        go_wp2
        exact bodyPost_ret (v := .tuple #[.agg #[.int .i64 0, .slice none 0 0], .int .i64 5]) (by simp [results, Try.results31, go_sem, r0, r1]) rfl (givesAdd_none HR.out rfl ((B2.out.setCell (by simp; omega) _).setCell (by simp; omega) _))
end Go.Proofs.Ytemeaeafdhgfaaa
