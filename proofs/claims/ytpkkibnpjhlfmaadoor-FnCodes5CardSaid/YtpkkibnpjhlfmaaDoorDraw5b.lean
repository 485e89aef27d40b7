/-
  The draw of signs and addresses.
-/
import Derived.Test.YtpkkibnpjhlfmaaDoorDraw5
import Derived.Test.YtpkkibnpjhlfmaaDoorAppend
import Derived.Deep.DeepCutAuto
namespace Go.Proofs.YtpkkibnpjhlfmaaDoor
open Go.RowKit

/-- What a draw of signs and addresses leaves. -/
def DrawnA (B g K : Nat) (w : World) (e : Ending) (w' : World) : Prop :=
  ∃ (sg : Int) (ss : List ByteArray) (a n c : Nat), e = .returned (.tuple #[.int .i64 sg, .slice (some ⟨a, 0, none⟩) n c]) ∧ Hid (ss.length = n) ∧ n ≤ 50 ∧ Hid (∀ s ∈ ss, s.size ≤ 20) ∧ Src B g K w' ∧ w.grownBy w' (some g) ∧
    w'.ownsRow w.heap.size 9 1 (.slice (some ⟨a, 0, none⟩) n c) n (ss.map Value.string)
theorem strs_cells1 (ss : List ByteArray) : ∀ u ∈ ss.map Value.string, u.oneCell' = true := by
  intro u hu
  obtain ⟨_, _, rfl⟩ := List.mem_map.1 hu
  rfl
theorem row_cellD {w : World} {lo g n cap : Nat} {e : TypeId} {ns : List ByteArray} (h : w.ownsRow lo e 1 (.slice (some ⟨g, 0, none⟩) n cap) n (ns.map Value.string)) (i : Nat) (hi : i < ns.length) : w.cell? ⟨g, i, none⟩ = some (.string ns[i]) := by
  have := h.cells (g := g) rfl i _ (strs_cell ns i hi)
  rw [Addr.add_lit] at this
  simpa using this
/-- A row's cells, where it lies. -/
theorem row_at {w : World} {lo b n c : Nat} {ss : List ByteArray} (h : w.ownsRow lo 9 1 (.slice (some ⟨b, 0, none⟩) n c) n (ss.map Value.string)) : ∀ j u, (ss.map Value.string)[j]? = some u → w.cell? ((⟨b, 0, none⟩ : Addr).add j) = some u :=
  h.cells (g := b) rfl

set_option maxRecDepth 100000 in
set_option maxHeartbeats 16000000 in
theorem draw5_any (B g K : Nat) (w : World) (hK : K < 10000000) (h : Src B g K w) :
    Calls Tryd.prog 39 #[.pointer (some ⟨g, 0, none⟩)] w (DrawnA B g (K + 2000) w) := by
  have HI : Hid (∃ i0 : TypeInfo, Tryd.prog.info? 9 = some i0 ∧ i0.zero = some (.string ByteArray.empty) ∧ i0.size = 1 ∧ i0.bytes = 16) := info_parts info9
  have hgl := h.lt
  go_enter Tryd.func39, Tryd.ntmps39
  go_wp2_with fail
  refine (pick_any B g K 3 (by omega) _ (by omega) h).mono ?_
  rintro e w1 ⟨x1, rfl, ⟨hx1a, hx1b, hx1c⟩, hs1, hg1⟩
  have hx1 : x1 ≤ 2 := by omega
  have hgl1 := hs1.lt
  clear hx1b hx1c
  go_wp2_with fail
  refine (pick_any B g (K + 2) 6 (by omega) _ (by omega) hs1).mono ?_
  rintro e w2 ⟨x2, rfl, ⟨hx2a, hx2b, hx2c⟩, hs2, hg2⟩
  have hx2 : x2 ≤ 5 := by omega
  have hgl2 := hs2.lt
  clear hx2b hx2c
  have G2 := Lib.hid (gb_trans hg1 hg2)
  clear hg1 hg2 hs1 h
  go_wp2_with fail
  refine (pick_any B g (K + 4) 9 (by omega) _ (by omega) (hs2.below (by repeat (first | exact Below.refl _ _ | refine Below.alloc ?_ (by simp; try omega) _ | refine Below.setCell ?_ (by simp; try omega) _)))).mono ?_
  rintro e w3 ⟨x3, rfl, ⟨hx3a, hx3b, hx3c⟩, hs3, hg3⟩
  have hx3 : x3 ≤ 8 := by omega
  clear hx3b hx3c
  have G3 := Lib.hid (gb_trans (gb_alloc G2.out (.cells #[] 9)) hg3)
  have O3 : Hid (w3.ownsRow w.heap.size 9 1 (.slice (some ⟨w2.heap.size, 0, none⟩) 0 0) 0 []) := by
    have := G2.out.size
    exact (own_lower (World.ownsRow_made w2 #[] 0 (Nat.le_refl _) (by unfold maxLen; omega) rfl) this).kept hg3 (.inr (by simp [Value.ownBlock]; omega))
  clear hg3 hs2 G2
  go_upto_if 20 with (go_at_call 40; refine (one_any B g (K + 4 + 2) 20 (by omega) _ (by omega) hs3).mono ?_; rintro e w4 ⟨bo, rfl, hs4, hg4⟩)
  have G4 := Lib.hid (gb_trans G3.out hg4)
  have O4 : Hid (w4.ownsRow w.heap.size 9 1 (.slice (some ⟨w2.heap.size, 0, none⟩) 0 0) 0 []) := O3.out.kept hg4 (.inr (by simp [Value.ownBlock]; omega))
  have S4 := Lib.hid hs4
  clear hs4 hg4 hs3 G3 O3
  go_cut [5, 7] (fun s5 s7 wx => ∃ (rg : Int) (nn : Nat), s5 = .int .i64 rg ∧ s7 = .int .i64 (nn : Int) ∧ 1 ≤ rg ∧ rg ≤ 8 ∧ nn ≤ 42 ∧ Hid (Src B g (K + 10) wx) ∧ Hid (w.grownBy wx (some g)) ∧ Hid (wx.ownsRow w.heap.size 9 1 (.slice (some ⟨w2.heap.size, 0, none⟩) 0 0) 0 []))
  case first =>
    cases bo with
    | false =>
      obtain ⟨nn, rfl⟩ : ∃ nn : Nat, x3 = nn := ⟨x3.toNat, by omega⟩
      have S5 : Hid (Src B g (K + 10) w4) := S4.out.more (by omega)
      go_wp2_with fail
      go_meet
      exact ⟨_, nn, rfl, rfl, by omega, by omega, by omega, S5.out, G4.out, O4.out⟩
    | true =>
      go_wp2_with fail
      refine (pick_any B g (K + 4 + 2 + 2) 3 (by omega) _ (by omega) S4.out).mono ?_
      rintro e w5 ⟨x5, rfl, ⟨hx5a, hx5b, hx5c⟩, hs5, hg5⟩
      have hx5 : x5 ≤ 2 := by omega
      clear hx5b hx5c
      obtain ⟨nn, rfl⟩ : ∃ nn : Nat, x5 = nn := ⟨x5.toNat, by omega⟩
      have G5 := Lib.hid (gb_trans G4.out hg5)
      have O5 : Hid (w5.ownsRow w.heap.size 9 1 (.slice (some ⟨w2.heap.size, 0, none⟩) 0 0) 0 []) := O4.out.kept hg5 (.inr (by simp [Value.ownBlock]; omega))
      have S5 : Hid (Src B g (K + 10) w5) := hs5.more (by omega)
      clear hs5 hg5
      go_wp2_with fail
      go_meet
      exact ⟨8, 40 + nn, rfl, by go_num, by omega, by omega, by omega, S5.out, G5.out, O5.out⟩
  case rest =>
    obtain ⟨rg, nn, rfl, rfl, hr1, hr2, hnn, S5, G5, O5⟩ := hcut
    generalize wc = w5 at *
    clear G4 O4 S4
    go_wp2
    go_loopw [6, 8] (fun q kv wr => ∃ (k m b c : Nat) (ss : List ByteArray), k + m ≤ 42 ∧ kv = .int .i64 (k : Int) ∧ q = .slice (some ⟨b, 0, none⟩) m c ∧ Hid (ss.length = m) ∧ Hid (∀ s ∈ ss, s.size ≤ 20) ∧ Hid (Src B g (K + 10 + 40 * (42 - k)) wr) ∧ Hid (w.grownBy wr (some g)) ∧ Hid (wr.ownsRow w.heap.size 9 1 (.slice (some ⟨b, 0, none⟩) m c) m (ss.map Value.string))) (fun _ kv _ => (intOf kv).toNat)
    case atStart => exact ⟨nn, 0, _, _, [], by omega, rfl, rfl, rfl, fun s hs => by simp at hs, S5.out.more (by omega), G5.out, O5.out⟩
    case round =>
      obtain ⟨k, m, b, c, ss, hkm, rfl, rfl, HN, HZ, HS6, HG6, HO6⟩ := hrel
      have hbw := (HO6.out.lt b rfl)
      by_cases hk : 0 < k
      · have hk0 : (0 : Int) < (k : Int) := by omega
        go_wp2_with fail
        refine (drawWord_any B g _ _ _ (by omega) (by omega) _ (by omega) HS6.out).mono ?_
        rintro e w6 ⟨t, rfl, ht, hs6, hg6⟩
        have G6 := Lib.hid (gb_trans HG6.out hg6)
        have O6 : Hid (w6.ownsRow w.heap.size 9 1 (.slice (some ⟨b, 0, none⟩) m c) m (ss.map Value.string)) := HO6.out.kept hg6 (.inr (by simp [Value.ownBlock]; omega))
        have S6 := Lib.hid hs6
        have hz6 := G6.out.size
        clear hs6 hg6 HS6 HG6 HO6
        go_wp2_with (first | (at_builtin; refine wpList_append_clone _ rfl _ _ 24 rfl w.heap.size 9 HI.out.choose (.string ByteArray.empty) 1 16 Tryd.underlying24 HI.out.choose_spec.1 HI.out.choose_spec.2.1 HI.out.choose_spec.2.2.1 HI.out.choose_spec.2.2.2 rfl (by decide) w6.heap.size rfl (own_lo (World.ownsRow_made w6 #[] 0 (Nat.le_refl _) (by unfold maxLen; omega) rfl) hz6) ⟨b, 0, none⟩ m c (ss.map Value.string) rfl (by simp; exact HN.out) (row_at (O6.out.alloc _)) (strs_cells1 ss) (by unfold maxLen; omega) (by omega) (by simp; omega) ?_))
        intro g7 cap7 w7 hown7 hgrow7 hat7
        have hbg : b < g7 := by have := (O6.out.lt b rfl).2; rcases hat7 with h | h <;> (subst h; (try simp); omega)
        have G7 : Hid (w.grownBy w7 (some g)) := gb_own (gb_alloc G6.out _) hgrow7 (fun q hq => by injection hq with hq; omega)
        have S7 : Hid (Src B g (K + 10 + 40 * (42 - k) + 40) w7) := (S6.out.below (by repeat (first | exact Below.refl _ _ | refine Below.alloc ?_ (by simp; try omega) _ | refine Below.setCell ?_ (by simp; try omega) _))).own hgrow7 (lo := w6.heap.size) (fun q hq => by injection hq with hq; omega) (by omega)
        have O7 : Hid (w7.ownsRow w.heap.size 9 1 (.slice (some ⟨b, 0, none⟩) m c) m (ss.map Value.string)) := (O6.out.alloc _).kept hgrow7 (.inr (by have := (O6.out.lt b rfl).2; simp [Value.ownBlock]; omega))
        have X7 := Lib.hid hown7
        have hz7 := G7.out.size
        clear hown7 hgrow7 G6 S6 O6
        generalize hxs : ss.map Value.string = xs at X7
        have HXS := Lib.hid hxs
        clear hxs
        have HGE : Hid (∀ q, (Value.slice (some ⟨g7, 0, none⟩) m cap7).ownBlock = some q → w.heap.size ≤ q) := fun q hq => (X7.out.lt q hq).1
        have hbw7 := O7.out.lt b rfl
        go_wp2_with (first | (at_builtin; refine wpList_append_lies _ rfl _ _ 24 rfl w.heap.size 9 HI.out.choose (.string ByteArray.empty) 1 16 Tryd.underlying24 HI.out.choose_spec.1 HI.out.choose_spec.2.1 HI.out.choose_spec.2.2.1 HI.out.choose_spec.2.2.2 rfl (by decide) (.slice (some ⟨g7, 0, none⟩) m cap7) m xs rfl (X7.out.alloc _) ⟨w7.heap.size, 0, none⟩ 1 1 [.string t] rfl rfl ?_ (by intro u hu; simp at hu; subst hu; rfl) (by omega) (by unfold maxLen; omega) (by omega) (by simp; omega) _ rfl ?_; (next => (intro j u hj; match j, hj with | 0, hj => (simp at hj; subst hj; simp [Addr.add, go_sem])))))
        intro g8 cap8 w8 hown8 hgrow8 _ _
        have G8 : Hid (w.grownBy w8 (some g)) := gb_own (gb_alloc G7.out _) hgrow8 HGE.out
        have S8 : Hid (Src B g (K + 10 + 40 * (42 - k) + 40) w8) := (S7.out.below (by repeat (first | exact Below.refl _ _ | refine Below.alloc ?_ (by simp; try omega) _ | refine Below.setCell ?_ (by simp; try omega) _))).own hgrow8 HGE.out hgl
        have O8 : Hid (w8.ownsRow w.heap.size 9 1 (.slice (some ⟨b, 0, none⟩) m c) m (ss.map Value.string)) := (O7.out.alloc _).kept hgrow8 (.inr (by simp [Value.ownBlock]; omega))
        have X8 : Hid (w8.ownsRow w.heap.size 9 1 (.slice (some ⟨g8, 0, none⟩) (m + 1) cap8) (m + 1) ((ss ++ [t]).map Value.string)) := by
          unfold Hid; rw [List.map_append, HXS.out]; exact hown8
        have N8 : Hid ((ss ++ [t]).length = m + 1) := by unfold Hid; rw [List.length_append, HN.out]; rfl
        have Z8 : Hid (∀ s ∈ ss ++ [t], s.size ≤ 20) := fun s hs => by
          rcases List.mem_append.1 hs with h | h
          · exact HZ.out s h
          · simp at h; subst h; exact ht
        have R8 := Lib.hid (rowS_RS N8 X8.out)
        clear hown8 hgrow8 G7 S7 O7 X7 HGE X8
        go_wp2_with fail
        refine (l05Ok_any _ _ (ss ++ [t]) (m + 1) cap8 _ N8 R8.out (by omega) (fun s hs => by have := Z8.out s hs; omega)).mono ?_
        rintro e w9 ⟨rfl, hb9⟩
        have G9 := Lib.hid (gb_below G8.out hb9)
        have S9 := Lib.hid (S8.out.below hb9)
        have O9 : Hid (w9.ownsRow w.heap.size 9 1 (.slice (some ⟨b, 0, none⟩) m c) m (ss.map Value.string)) := O8.out.kept (grown_below hb9 none) (by cases (Value.slice (some ⟨b, 0, none⟩) m c).ownBlock <;> simp)
        have hz9 := G9.out.size
        clear hb9 G8 S8 O8 R8
        generalize okB _ _ = r
        cases r with
        | true =>
          generalize hxo : ss.map Value.string = xo at O9
          have HXO := Lib.hid hxo
          clear hxo
          have HGO : Hid (∀ q, (Value.slice (some ⟨b, 0, none⟩) m c).ownBlock = some q → w.heap.size ≤ q) := fun q hq => (O9.out.lt q hq).1
          have hb9 := O9.out.lt b rfl
          go_wp2_with (first | (at_builtin; refine wpList_append_lies _ rfl _ _ 24 rfl w.heap.size 9 HI.out.choose (.string ByteArray.empty) 1 16 Tryd.underlying24 HI.out.choose_spec.1 HI.out.choose_spec.2.1 HI.out.choose_spec.2.2.1 HI.out.choose_spec.2.2.2 rfl (by decide) (.slice (some ⟨b, 0, none⟩) m c) m xo rfl (O9.out.alloc _) ⟨w9.heap.size, 0, none⟩ 1 1 [.string t] rfl rfl ?_ (by intro u hu; simp at hu; subst hu; rfl) (by omega) (by unfold maxLen; omega) (by omega) (by simp; omega) _ rfl ?_; (next => (intro j u hj; match j, hj with | 0, hj => (simp at hj; subst hj; simp [Addr.add, go_sem])))))
          intro g10 cap10 w10 hown10 hgrow10 _ _
          have G10 : Hid (w.grownBy w10 (some g)) := gb_own (gb_alloc G9.out _) hgrow10 HGO.out
          have S10 : Hid (Src B g (K + 10 + 40 * (42 - (k - 1))) w10) := ((S9.out.below (by repeat (first | exact Below.refl _ _ | refine Below.alloc ?_ (by simp; try omega) _ | refine Below.setCell ?_ (by simp; try omega) _))).own hgrow10 HGO.out hgl).more (by omega)
          have O10 : Hid (w10.ownsRow w.heap.size 9 1 (.slice (some ⟨g10, 0, none⟩) (m + 1) cap10) (m + 1) ((ss ++ [t]).map Value.string)) := by
            unfold Hid; rw [List.map_append, HXO.out]; exact hown10
          clear hown10 hgrow10
          go_wp2
          go_roundw
          case rel => exact ⟨k - 1, m + 1, g10, cap10, ss ++ [t], by omega, by congr 1; omega, rfl, N8.out, Z8.out, S10.out, G10.out, O10.out⟩
          case measure => simp [intOf]; omega
        | false =>
          by_cases hm40 : (40 : Int) ≤ (m : Int)
          · skip
            generalize hxo : ss.map Value.string = xo at O9
            have HXO := Lib.hid hxo
            clear hxo
            have HGO : Hid (∀ q, (Value.slice (some ⟨b, 0, none⟩) m c).ownBlock = some q → w.heap.size ≤ q) := fun q hq => (O9.out.lt q hq).1
            have hb9 := O9.out.lt b rfl
            go_wp2_with (first | (at_builtin; refine wpList_append_lies _ rfl _ _ 24 rfl w.heap.size 9 HI.out.choose (.string ByteArray.empty) 1 16 Tryd.underlying24 HI.out.choose_spec.1 HI.out.choose_spec.2.1 HI.out.choose_spec.2.2.1 HI.out.choose_spec.2.2.2 rfl (by decide) (.slice (some ⟨b, 0, none⟩) m c) m xo rfl (O9.out.alloc _) ⟨w9.heap.size, 0, none⟩ 1 1 [.string t] rfl rfl ?_ (by intro u hu; simp at hu; subst hu; rfl) (by omega) (by unfold maxLen; omega) (by omega) (by simp; omega) _ rfl ?_; (next => (intro j u hj; match j, hj with | 0, hj => (simp at hj; subst hj; simp [Addr.add, go_sem])))))
            intro g10 cap10 w10 hown10 hgrow10 _ _
            have G10 : Hid (w.grownBy w10 (some g)) := gb_own (gb_alloc G9.out _) hgrow10 HGO.out
            have S10 : Hid (Src B g (K + 10 + 40 * (42 - (k - 1))) w10) := ((S9.out.below (by repeat (first | exact Below.refl _ _ | refine Below.alloc ?_ (by simp; try omega) _ | refine Below.setCell ?_ (by simp; try omega) _))).own hgrow10 HGO.out hgl).more (by omega)
            have O10 : Hid (w10.ownsRow w.heap.size 9 1 (.slice (some ⟨g10, 0, none⟩) (m + 1) cap10) (m + 1) ((ss ++ [t]).map Value.string)) := by
              unfold Hid; rw [List.map_append, HXO.out]; exact hown10
            clear hown10 hgrow10
            go_wp2
            go_roundw
            case rel => exact ⟨k - 1, m + 1, g10, cap10, ss ++ [t], by omega, by congr 1; omega, rfl, N8.out, Z8.out, S10.out, G10.out, O10.out⟩
            case measure => simp [intOf]; omega

          · have S10 : Hid (Src B g (K + 10 + 40 * (42 - (k - 1))) w9) := S9.out.more (by omega)
            go_wp2
            go_roundw
            case rel => exact ⟨k - 1, m, b, c, ss, by omega, by congr 1; omega, rfl, HN.out, HZ.out, S10.out, G9.out, O9.out⟩
            case measure => simp [intOf]; omega
      · have hk' : k = 0 := by omega
        subst hk'
        go_wp2_with fail
        refine (pick_any B g _ 20 (by omega) _ (by omega) HS6.out).mono ?_
        rintro e w6 ⟨x6, rfl, ⟨hx6a, hx6b, hx6c⟩, hs6, hg6⟩
        have hx6 : x6 ≤ 19 := by omega
        clear hx6b hx6c
        have G6 := Lib.hid (gb_trans HG6.out hg6)
        have O6 : Hid (w6.ownsRow w.heap.size 9 1 (.slice (some ⟨b, 0, none⟩) m c) m (ss.map Value.string)) := HO6.out.kept hg6 (.inr (by simp [Value.ownBlock]; omega))
        have S6 : Hid (Src B g (K + 1700) w6) := hs6.more (by omega)
        have hz6 := G6.out.size
        have hgl6 := S6.out.lt
        clear hs6 hg6 HS6 HG6 HO6
        rcases (by omega : x6 = 0 ∨ x6 = 1 ∨ 2 ≤ x6) with h6 | h6 | h6
        · subst h6
          go_wp2_with fail
          refine (among_any B g (K + 1700) w6.heap.size 0 [-1, 1, 2, 4, 5, 9223372036854775807] 6 6 _ (by omega) (S6.out.below (by repeat (first | exact Below.refl _ _ | refine Below.alloc ?_ (by simp; try omega) _ | refine Below.setCell ?_ (by simp; try omega) _))) rfl (by omega) (by omega) (by omega) ?_).mono ?_
          · intro i hi
            rw [cell_of_row _ _ _ _ _ _ (heap_alloc_new w6 _)]
            rcases (by simp at hi; omega : i = 0 ∨ i = 1 ∨ i = 2 ∨ i = 3 ∨ i = 4 ∨ i = 5) with rfl | rfl | rfl | rfl | rfl | rfl <;> rfl
          rintro e w7 ⟨y, rfl, _, hs7, hg7⟩
          have G7 := Lib.hid (gb_trans (gb_alloc G6.out _) hg7)
          have O7 : Hid (w7.ownsRow w.heap.size 9 1 (.slice (some ⟨b, 0, none⟩) m c) m (ss.map Value.string)) := (O6.out.alloc _).kept hg7 (.inr (by simp [Value.ownBlock]; omega))
          go_wp2
          exact bodyPost_ret (v := .tuple #[.int .i64 y, .slice (some ⟨b, 0, none⟩) m c]) (by simp [results, Tryd.results39, go_sem]) rfl ⟨y, ss, _, m, c, rfl, HN, by omega, HZ, hs7.more (by omega), G7.out, O7.out⟩
        · subst h6
          go_wp2_with fail
          refine (text_any B g (K + 1700) w6.heap.size 0 [⟨#[]⟩, ⟨#[97]⟩, ⟨#[97, 98, 99, 100, 97, 98, 99, 100, 97]⟩, ⟨#[101]⟩, ⟨#[65]⟩] 5 5 _ (by omega) (S6.out.below (by repeat (first | exact Below.refl _ _ | refine Below.alloc ?_ (by simp; try omega) _ | refine Below.setCell ?_ (by simp; try omega) _))) rfl (by omega) (by omega) (by omega) ?_).mono ?_
          · intro i hi
            rw [cell_of_row _ _ _ _ _ _ (heap_alloc_new w6 _)]
            rcases (by simp at hi; omega : i = 0 ∨ i = 1 ∨ i = 2 ∨ i = 3 ∨ i = 4) with rfl | rfl | rfl | rfl | rfl <;> rfl
          rintro e w7 ⟨u, rfl, hu, hs7, hg7⟩
          have hus : u.size ≤ 20 := by
            simp at hu
            rcases hu with rfl | rfl | rfl | rfl | rfl <;> decide
          have G7 := Lib.hid (gb_trans (gb_alloc G6.out _) hg7)
          have O7 : Hid (w7.ownsRow w.heap.size 9 1 (.slice (some ⟨b, 0, none⟩) m c) m (ss.map Value.string)) := (O6.out.alloc _).kept hg7 (.inr (by simp [Value.ownBlock]; omega))
          have S7 := Lib.hid hs7
          have hz7 := G7.out.size
          clear hs7 hg7 hu
          generalize hxo : ss.map Value.string = xo at O7
          have HXO := Lib.hid hxo
          clear hxo
          have HGO : Hid (∀ q, (Value.slice (some ⟨b, 0, none⟩) m c).ownBlock = some q → w.heap.size ≤ q) := fun q hq => (O7.out.lt q hq).1
          have hb7 := O7.out.lt b rfl
          have N8 : Hid ((ss ++ [u]).length = m + 1) := by unfold Hid; rw [List.length_append, HN.out]; rfl
          have Z8 : Hid (∀ s ∈ ss ++ [u], s.size ≤ 20) := fun s hs => by
            rcases List.mem_append.1 hs with h | h
            · exact HZ.out s h
            · simp at h; subst h; exact hus
          go_wp2_with (first | (at_builtin; refine wpList_append_lies _ rfl _ _ 24 rfl w.heap.size 9 HI.out.choose (.string ByteArray.empty) 1 16 Tryd.underlying24 HI.out.choose_spec.1 HI.out.choose_spec.2.1 HI.out.choose_spec.2.2.1 HI.out.choose_spec.2.2.2 rfl (by decide) (.slice (some ⟨b, 0, none⟩) m c) m xo rfl (O7.out.alloc _) ⟨w7.heap.size, 0, none⟩ 1 1 [.string u] rfl rfl ?_ (by intro u hu; simp at hu; subst hu; rfl) (by omega) (by unfold maxLen; omega) (by omega) (by simp; omega) _ rfl ?_; (next => (intro j u hj; match j, hj with | 0, hj => (simp at hj; subst hj; simp [Addr.add, go_sem])))))
          intro g10 cap10 w10 hown10 hgrow10 _ _
          have G10 : Hid (w.grownBy w10 (some g)) := gb_own (gb_alloc G7.out _) hgrow10 HGO.out
          have S10 : Hid (Src B g (K + 2000) w10) := ((S7.out.below (by repeat (first | exact Below.refl _ _ | refine Below.alloc ?_ (by simp; try omega) _ | refine Below.setCell ?_ (by simp; try omega) _))).own hgrow10 HGO.out hgl).more (by omega)
          have O10 : Hid (w10.ownsRow w.heap.size 9 1 (.slice (some ⟨g10, 0, none⟩) (m + 1) cap10) (m + 1) ((ss ++ [u]).map Value.string)) := by
            unfold Hid; rw [List.map_append, HXO.out]; exact hown10
          clear hown10 hgrow10
          go_wp2
          exact bodyPost_ret (v := .tuple #[.int .i64 (2 + x1), .slice (some ⟨g10, 0, none⟩) (m + 1) cap10]) (by simp [results, Tryd.results39, go_sem]) rfl ⟨_, ss ++ [u], _, m + 1, cap10, rfl, N8, by omega, Z8, S10.out, G10.out, O10.out⟩
        · have h60 : (x6 == 0) = false := by simp; omega
          have h61 : (x6 == 1) = false := by simp; omega
          go_wp2
          exact bodyPost_ret (v := .tuple #[.int .i64 (2 + x1), .slice (some ⟨b, 0, none⟩) m c]) (by simp [results, Tryd.results39, go_sem]) rfl ⟨_, ss, _, m, c, rfl, HN, by omega, HZ, S6.out.more (by omega), G6.out, O6.out⟩
end Go.Proofs.YtpkkibnpjhlfmaaDoor
