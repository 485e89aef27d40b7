/-
  Guests that have gone: the model's l10Gone and GoOne; the program's gone, has, changed, GoOne.
-/
import Derived.Test.YtkfeihnapcfkgaaDoorRoomsC
import Derived.Test.YtkfeihnapcfkgaaDoorAppendFull
namespace Go.Proofs.YtkfeihnapcfkgaaDoor
open Go.RowKit

abbrev GuestE : TypeId := 35
theorem guest_one (ts : List TGuest) : ∀ u ∈ ts.flatMap cGuest, u.oneCell' = true := by
  intro u hu
  obtain ⟨t, _, hu⟩ := List.mem_flatMap.1 hu
  simp [cGuest] at hu
  rcases hu with rfl | rfl <;> rfl
theorem RR.addrR {w : World} {bb ob : Nat} {ts : List TGuest} (h : RR 2 cGuest w (some ⟨bb, ob, none⟩) ts) : ∀ j u, (ts.flatMap cGuest)[j]? = some u → w.cell? ((⟨bb, ob, none⟩ : Addr).add j) = some u := by
  rcases Nat.eq_zero_or_pos ts.length with hz | hz
  · intro j u hj
    have : ts = [] := List.eq_nil_of_length_eq_zero hz
    subst this
    simp at hj
  · obtain ⟨b, off, he, hb, hc⟩ := h.addr hz
    injection he with he
    injection he with e1 e2
    subst e1 e2
    exact news_recs (by omega) cGuest_len hc
/-- A store of a guest into a row of one's own. -/
theorem guest_store {W : World} {lo g n cap : Nat} {ts : List TGuest} (h : W.ownsRow lo 35 2 (.slice (some ⟨g, 0, none⟩) n cap) n (ts.flatMap cGuest)) (k : Nat) (hk : k < ts.length) (u : TGuest) :
    ((W.setCell ⟨g, k * 2, none⟩ (.int .i64 u.1)).setCell ⟨g, k * 2 + 1, none⟩ (.int .i64 u.2)).ownsRow lo 35 2 (.slice (some ⟨g, 0, none⟩) n cap) n ((ts.set k u).flatMap cGuest) := by
  have h1 := ownsRow_set h (k * 2 + 0) (.int .i64 u.1)
  rw [rflat_set cGuest_len ts k hk 0 (by omega) (.int .i64 u.1) (u.1, ts[k].2) rfl] at h1
  have hk2 : k < (ts.set k (u.1, ts[k].2)).length := by simpa using hk
  have h2 := ownsRow_set h1 (k * 2 + 1) (.int .i64 u.2)
  rw [rflat_set cGuest_len _ k hk2 1 (by omega) (.int .i64 u.2) u (by rw [List.getElem_set_self]; rfl), List.set_set] at h2
  exact h2
theorem guest_cells {W : World} {lo g n cap : Nat} {ts : List TGuest} (h : W.ownsRow lo 35 2 (.slice (some ⟨g, 0, none⟩) n cap) n (ts.flatMap cGuest)) (k : Nat) (hk : k < ts.length) :
    W.cell? ⟨g, k * 2, none⟩ = some (.int .i64 ts[k].1) ∧ W.cell? ⟨g, k * 2 + 1, none⟩ = some (.int .i64 ts[k].2) ∧ W.frozen? ⟨g, k * 2, none⟩ = false ∧ W.frozen? ⟨g, k * 2 + 1, none⟩ = false :=
  ⟨ownsRow_cell h _ _ (by have := rflat_get cGuest_len ts k hk 0 (by omega); rw [Nat.add_zero] at this; exact this), ownsRow_cell h _ _ (rflat_get cGuest_len ts k hk 1 (by omega)), ownsRow_frozen h _, ownsRow_frozen h _⟩

set_option maxHeartbeats 2000000 in
theorem l10Gone_any (bb ob m d k : Nat) (ts : List TGuest) (w : World) (hm : Hid (ts.length = m)) (ha : RR 2 cGuest w (some ⟨bb, ob, none⟩) ts) (hsm : m ≤ 1048576) (hk : k < m) :
    Calls Tryd.prog 61 #[.slice (some ⟨bb, ob, none⟩) m d, .int .i64 k] w (GivesC 35 2 ((goneL ts k).flatMap cGuest) m w) := by
  have hka : k < ts.length := by rw [hm.out]; exact hk
  have HA : Hid (∀ W, Below w.heap.size w W → RR 2 cGuest W (some ⟨bb, ob, none⟩) ts) := fun W h => ha.below h
  have HL : Hid ((ts.flatMap cGuest).length = m * 2) := by unfold Hid; rw [rflat_length cGuest_len, hm.out]
  have HF := Lib.hid (guest_one ts)
  have HI : Hid (∃ i0 : TypeInfo, Tryd.prog.info? 35 = some i0 ∧ i0.zero = some (.agg #[.int .i64 0, .int .i64 0]) ∧ i0.size = 2 ∧ i0.bytes = 16) := info_parts info35
  have HGN : Hid (goneL ts k = ts.set k (ts[k].2, ts[k].2)) := by
    unfold Hid goneL goneG
    rw [List.getD_eq_getElem?_getD, List.getElem?_eq_getElem hka, Option.getD_some]
  have hk0 : (0 : Int) ≤ (k : Int) := by omega
  have hk1 : (k : Int) < (m : Int) := by omega
  clear ha
  go_enter Tryd.func61, Tryd.ntmps61
  go_wp2_with (at_builtin; refine wpList_append_clone _ rfl _ _ 25 rfl w.heap.size 35 HI.out.choose (.agg #[.int .i64 0, .int .i64 0]) 2 16 Tryd.underlying25 HI.out.choose_spec.1 HI.out.choose_spec.2.1 HI.out.choose_spec.2.2.1 HI.out.choose_spec.2.2.2 rfl (by decide) w.heap.size rfl (World.ownsRow_made w #[] 0 (Nat.le_refl _) (by unfold maxLen; omega) rfl) ⟨bb, ob, none⟩ m d _ rfl HL.out ((HA.out _ ((Below.refl _ _).alloc (Nat.le_refl _) _)).addrR) HF.out (by unfold maxLen; omega) (by omega) (by simp) ?_)
  intro g cap w1 hown1 hgrow hat
  have HB : Hid (Below w.heap.size w w1) := ((Below.refl _ _).alloc (Nat.le_refl _) _).grown hgrow (by simp) (fun k hk => by simp at hk; omega)
  have HO := Lib.hid hown1
  have HG : Hid (w.heap.size ≤ g) := own_ge hown1
  clear hown1 hgrow hat
  obtain ⟨b, off, he, hbl, hc⟩ := (HA.out w (Below.refl _ _)).at_ k hka
  injection he with he
  injection he with e1 e2
  subst e1 e2
  have x1 := hc 1 _ rfl
  have y := guest_cells HO.out k hka
  have hst := fun u => guest_store HO.out k hka u
  have HST := Lib.hid hst
  obtain ⟨y0, y1, y2, y3⟩ := y
  clear hc hst
  have hbg : bb ≠ g := by have := HG.out; omega
  rw [← HB.out.cell (p := ⟨_, _, none⟩) hbl] at x1
  generalize ts[k] = t at x1 y0 y1 HST HGN
  obtain ⟨t1, t2⟩ := t
  dsimp only at x1 y0 y1 HST HGN
  go_wp2_with fail
  go_region
  all_goals
    go_wp2
    go_ret
    exact ⟨g, cap, rfl, Below.drew ((HB.out.setCell HG.out _).setCell HG.out _), HG.out, by rw [HGN.out]; exact (HST.out (t2, t2)).drew⟩

theorem resG_at {ts : List TGuest} {k : Nat} (h : k < ts.length) : resG (ts.getD k (0, 0)) = decide (ts[k].1 = ts[k].2) := by
  rw [List.getD_eq_getElem?_getD, List.getElem?_eq_getElem h, Option.getD_some]; rfl
set_option maxHeartbeats 4000000 in
theorem specGoOne_any (w : World) {b0 o0 n0 c0 : Nat} (l0 : List Int) (hn0 : Hid (l0.length = n0)) (h0 : RI w (some ⟨b0, o0, none⟩) l0) (hs0 : n0 ≤ 1048576) (_wf0 : Hid (∀ k ∈ l0, (Lit.int .i64 k).wf = true)) {b1 o1 n1 c1 : Nat} (ts1 : List TGuest) (hn1 : Hid (ts1.length = n1)) (h1 : RR 2 cGuest w (some ⟨b1, o1, none⟩) ts1) (hs1 : n1 ≤ 1048576) (_wf1 : Hid (∀ t ∈ ts1, wfGuest t)) (f2 : Int) (_wf2 : (Lit.int .i64 f2).wf = true) :
    Calls Tryd.prog 20 #[.slice (some ⟨b0, o0, none⟩) n0 c0, .slice (some ⟨b1, o1, none⟩) n1 c1, .int .i64 f2] w (GivesRs 35 2 cGuest (goOf l0 ts1 f2) w) := by
  have OK := l10Ok_any b0 o0 (some ⟨b1, o1, none⟩) l0 ts1 n0 n1 c0 c1 w hn0 hn1 h0 h1 hs0 hs1
  have CA : Hid (∀ W, Below w.heap.size w W → Pl l0 → guB n0 ts1 = true → ∀ k : Nat, k < n1 → Calls Tryd.prog 60 #[.slice (some ⟨b0, o0, none⟩) n0 c0, .slice (some ⟨b1, o1, none⟩) n1 c1, .int .i64 k] W fun e w' => e = .returned (.bool (canN l0 ts1 k)) ∧ Below W.heap.size W w') := fun W h hp hg k hk => l10Can_any b0 o0 (some ⟨b1, o1, none⟩) l0 ts1 n0 n1 c0 c1 k W hn0 hn1 (h0.below h) (h1.below h) hs0 hs1 hp hg hk
  have GO : Hid (∀ W, Below w.heap.size w W → ∀ k : Nat, k < n1 → Calls Tryd.prog 61 #[.slice (some ⟨b1, o1, none⟩) n1 c1, .int .i64 k] W (GivesC 35 2 ((goneL ts1 k).flatMap cGuest) n1 W)) := fun W h k hk => l10Gone_any b1 o1 n1 c1 k ts1 W hn1 (h1.below h) hs1 hk
  have HA : Hid (∀ W, Below w.heap.size w W → RR 2 cGuest W (some ⟨b1, o1, none⟩) ts1) := fun W h => h1.below h
  clear h0 h1
  cases hv : roB l0 ts1 with
  | false =>
    rw [hv] at OK
    have HR := Lib.hid (goOf_bad f2 hv)
    clear hv
    go_enter Tryd.func20, Tryd.ntmps20
    go_wp2_with (go_at_call 58; refine OK.mono ?_; rintro e w1 ⟨rfl, hb1⟩)
    go_ret2
    exact givesRs_nil HR.out hb1
  | true =>
    rw [hv] at OK
    cases hk : inB f2 0 ((n1 : Int) - 1) with
    | false =>
      have HR := Lib.hid (goOf_range hv hn1.out hk)
      clear hv
      go_enter Tryd.func20, Tryd.ntmps20
      go_wp2_with (first | (go_at_call 58; refine OK.mono ?_; rintro e w1 ⟨rfl, hb1⟩) | (go_at_call 59; refine (l00In_any _ _ _ _).mono ?_; rintro e w' ⟨rfl, rfl⟩))
      go_ret2
      exact givesRs_nil HR.out hb1
    | true =>
      obtain ⟨hk0, hk1⟩ := inB_of hk
      obtain ⟨k, rfl⟩ : ∃ k : Nat, f2 = k := ⟨f2.toNat, by omega⟩
      have hkn : k < n1 := by omega
      have hka : k < ts1.length := by rw [hn1.out]; exact hkn
      have HG := Lib.hid (goOf_in hv hn1.out hkn)
      obtain ⟨h4, h2, h3, _⟩ := roB_of hv
      rw [hn0.out] at h3
      have CK := fun W hW => CA.out W hW h2 h3 k hkn
      have GK := Lib.hid (fun W hW => GO.out W hW k hkn)
      have CK := Lib.hid CK
      have HRS := Lib.hid (resG_at hka)
      have HLN : Hid ((goneL ts1 k).length = n1) := by unfold Hid goneL; rw [List.length_set]; exact hn1.out
      obtain ⟨b, off, he, hbl, hc⟩ := (HA.out _ (Below.refl _ _)).at_ k hka
      injection he with he
      injection he with e1 e2
      subst e1 e2
      have x0 := hc 0 _ rfl
      have x1 := hc 1 _ rfl
      simp only [Nat.add_zero] at x0
      have HX := Lib.hid (And.intro x0 x1)
      clear hv h2 h3 h4 hc x0 x1 CA GO
      generalize ts1[k] = t at HX HRS
      obtain ⟨t1, t2⟩ := t
      dsimp only at HX HRS
      have hkl : (k : Int) < (n1 : Int) := by omega
      have HC8 : Hid (∀ W, Below w.heap.size w W → W.cell? ⟨b1, o1 + k * 2, none⟩ = some (.int .i64 t1) ∧ W.cell? ⟨b1, o1 + k * 2 + 1, none⟩ = some (.int .i64 t2)) := fun W h => ⟨(h.cell (p := ⟨_, _, none⟩) hbl).trans HX.out.1, (h.cell (p := ⟨_, _, none⟩) hbl).trans HX.out.2⟩
      rcases eq_ways t1 t2 with ⟨⟨e4, e5⟩, e6⟩ | ⟨⟨e4, e5⟩, e6⟩
      · have HR : Hid (goOf l0 ts1 k = ([], 6)) := by unfold Hid; rw [HG.out, HRS.out, decide_eq_true e6, if_pos rfl]
        clear e6
        go_enter Tryd.func20, Tryd.ntmps20
        go_wp2_with (first | (go_at_call 58; refine OK.mono ?_; rintro e w1 ⟨rfl, hb1⟩; obtain ⟨x0, x1⟩ := HC8.out _ hb1) | (go_at_call 59; refine (l00In_any _ _ _ _).mono ?_; rintro e w' ⟨rfl, rfl⟩))
        go_quiet (fail)
        go_wp2
        go_ret2
        exact givesRs_nil HR.out (Below.drewN' hb1 _)
      · cases hq : canN l0 ts1 k with
        | false =>
          have HR : Hid (goOf l0 ts1 k = ([], 5)) := by unfold Hid; rw [HG.out, HRS.out, decide_eq_false e6, if_neg (by decide), hq, if_neg (by decide)]
          rw [hq] at CK
          clear e6 hq
          go_enter Tryd.func20, Tryd.ntmps20
          go_wp2_with (first | (go_at_call 58; refine OK.mono ?_; rintro e w1 ⟨rfl, hb1⟩; obtain ⟨x0, x1⟩ := HC8.out _ hb1) | (go_at_call 59; refine (l00In_any _ _ _ _).mono ?_; rintro e w' ⟨rfl, rfl⟩))
          go_quiet (fail)
          go_wp2_with (go_at_call 60; refine (CK.out _ (Below.drewN' hb1 _)).mono ?_; rintro e w2 ⟨rfl, hb2⟩)
          go_ret2
          exact givesRs_nil HR.out (two_worlds (Below.drewN' hb1 _) hb2)
        | true =>
          have HR : Hid (goOf l0 ts1 k = (goneL ts1 k, 0)) := by unfold Hid; rw [HG.out, HRS.out, decide_eq_false e6, if_neg (by decide), hq, if_pos rfl]
          rw [hq] at CK
          clear e6 hq
          go_enter Tryd.func20, Tryd.ntmps20
          go_wp2_with (first | (go_at_call 58; refine OK.mono ?_; rintro e w1 ⟨rfl, hb1⟩; obtain ⟨x0, x1⟩ := HC8.out _ hb1) | (go_at_call 59; refine (l00In_any _ _ _ _).mono ?_; rintro e w' ⟨rfl, rfl⟩))
          go_quiet (fail)
          go_wp2_with (first | (go_at_call 60; refine (CK.out _ (Below.drewN' hb1 _)).mono ?_; rintro e w2 ⟨rfl, hb2⟩) | (go_at_call 61; refine (GK.out _ (two_worlds (Below.drewN' hb1 _) hb2)).mono ?_; rintro e w3 ⟨g, cap, rfl, hb3, _, ho⟩))
          have HB2 := Lib.hid (two_worlds (Below.drewN' hb1 _) hb2)
          have HB3 := Lib.hid (two_worlds HB2.out hb3)
          have HO := Lib.hid (own_lo ho HB2.out.size)
          clear hb1 hb2 hb3 ho
          go_wp2
          go_ret2
          exact givesRs_of HR.out HB3.out HLN.out HO.out
end Go.Proofs.YtkfeihnapcfkgaaDoor
