/-
  The draws of hours, of sets, and of what the law on runs takes.
-/
import Derived.Test.YtiilgeoahpnkpaaBlowDr2
import Derived.Test.YtiilgeoahpnkpaaBlow7
import Derived.OwnWalk
namespace Go.Proofs.Ytiilgeoahpnkpaa
open Go.RowKit

set_option maxRecDepth 100000 in
set_option maxHeartbeats 2000000 in
theorem hoursB_any (B g K : Nat) (w : World) (hK : K < 100000) (h : Src B g K w) :
    Calls Try.prog 104 #[.pointer (some ⟨g, 0, none⟩)] w (Picks B g (K + 4) (fun x => 0 ≤ x ∧ x ≤ 25) w) := by
  go_enter Try.func104, Try.ntmps104
  go_wp2_with fail
  refine (one_any B g K 20 (by omega) _ (by omega) h).mono ?_
  rintro e w1 ⟨bo, rfl, hs1, hg1⟩
  have S1 := Lib.hid hs1
  have G1 := Lib.hid hg1
  clear hs1 hg1 h
  cases bo with
  | true =>
    go_wp2_with fail
    refine (pick_any B g _ 2 (by omega) _ (by omega) S1.out).mono ?_
    rintro e w2 ⟨x, rfl, ⟨h0, h1, h2⟩, hs2, hg2⟩
    have hx : 0 ≤ x ∧ x ≤ 1 := by omega
    have hw := wrI (x := 24 + x) (by omega)
    clear h0 h1 h2
    go_wp2
    go_ret
    exact ⟨24 + x, rfl, by omega, hs2.more (by omega), gb_trans G1.out hg2⟩
  | false =>
    go_wp2_with fail
    refine (pick_any B g _ 10 (by omega) _ (by omega) S1.out).mono ?_
    rintro e w2 ⟨x, rfl, ⟨h0, h1, h2⟩, hs2, hg2⟩
    go_wp2
    go_ret
    exact ⟨x, rfl, by omega, hs2.more (by omega), gb_trans G1.out hg2⟩
/-- What a draw of numbers leaves. -/
def DrawnI (B g K N : Nat) (w : World) (e : Ending) (w' : World) : Prop :=
  ∃ (l : List Int) (a n cp : Nat), e = .returned (.slice (some ⟨a, 0, none⟩) n cp) ∧ Hid (l.length = n) ∧ n ≤ N ∧ Hid (∀ x ∈ l, (Lit.int .i64 x).wf = true) ∧ Src B g K w' ∧ w.grownBy w' (some g) ∧ w'.ownsRow w.heap.size 2 1 (.slice (some ⟨a, 0, none⟩) n cp) n (l.map (Value.int .i64))
theorem infoInt : (Try.prog.info? 2).map (fun i => (i.zero, i.size, i.bytes)) = some (some (.int .i64 0), 1, 8) := by kernel_rfl
set_option maxRecDepth 100000 in
set_option maxHeartbeats 8000000 in
theorem drawSets_any (B g K : Nat) (a : Option Addr) (m c hh : Nat) (w : World) (hK : K < 100000) (hm : m ≤ 5) (hhb : hh ≤ 25) (h : Src B g K w) :
    Calls Try.prog 80 #[.pointer (some ⟨g, 0, none⟩), .slice a m c, .int .i64 hh] w (DrawnI B g (K + 60) 25 w) := by
  have HI : Hid (∃ i0 : TypeInfo, Try.prog.info? 2 = some i0 ∧ i0.zero = some (.int .i64 0) ∧ i0.size = 1 ∧ i0.bytes = 8) := info_parts infoInt
  have hgl := h.lt
  obtain ⟨q, hq4, hq⟩ : ∃ q : Nat, q ≤ 4 ∧ min (m : Int) 4 = (q : Int) := by
    by_cases h4 : m ≤ 4
    · exact ⟨m, h4, by omega⟩
    · exact ⟨4, by omega, by omega⟩
  have MN := fun W => min_any (m : Int) 4 W
  rw [hq] at MN
  obtain ⟨e1, e2⟩ := shlI hq4
  have hp1 := Nat.two_pow_pos q
  have hp2 := pow_le16 hq4
  generalize 2 ^ q = N at e1 e2 hp1 hp2
  have hwN := wrI (x := (N : Int) - 1) (by omega)
  have S0 : Hid (Src B g (K + 2 * 0) (w.alloc (.cells #[] 2))) := h.alloc _
  have G0 : Hid (w.grownBy (w.alloc (.cells #[] 2)) (some g)) := gb_alloc (grown_refl w (some g)) _
  have O0 : Hid ((w.alloc (.cells #[] 2)).ownsRow w.heap.size 2 1 (.slice (some ⟨w.heap.size, 0, none⟩) 0 0) 0 []) := World.ownsRow_made w #[] 0 (Nat.le_refl _) (by unfold maxLen; omega) rfl
  clear h hq
  go_enter Try.func80, Try.ntmps80
  go_wp2_with (first | (go_at_call 83; refine (MN _).mono ?_; rintro e w' ⟨rfl, rfl⟩))
  go_loopw [7, 9] (fun ov kv wr => ∃ (k n b cp : Nat) (l : List Int), k + n = hh ∧ kv = .int .i64 (k : Int) ∧ ov = .slice (some ⟨b, 0, none⟩) n cp ∧ Hid (l.length = n) ∧ Hid (∀ x ∈ l, (Lit.int .i64 x).wf = true) ∧ Hid (Src B g (K + 2 * n) wr) ∧ Hid (w.grownBy wr (some g)) ∧ Hid (wr.ownsRow w.heap.size 2 1 (.slice (some ⟨b, 0, none⟩) n cp) n (l.map (Value.int .i64)))) (fun _ kv _ => (intOf kv).toNat)
  case atStart => exact ⟨hh, 0, _, _, [], by omega, rfl, rfl, rfl, fun x hx => by simp at hx, S0, G0, O0⟩
  case round =>
    obtain ⟨k, n, b, cp, l, hkn, rfl, rfl, HN, HZ, HS, HG, HO⟩ := hrel
    have hbw := HO.out.lt b rfl
    by_cases hk : 0 < k
    · have hk0 : (0 : Int) < (k : Int) := by omega
      go_wp2_with fail
      refine (pick_any B g _ (N : Int) (by omega) _ (by omega) HS.out).mono ?_
      rintro e w6 ⟨x, rfl, ⟨h0, h1, h2⟩, hs6, hg6⟩
      have hxb : 0 ≤ x ∧ x ≤ 16 := by omega
      have G6 := Lib.hid (gb_trans HG.out hg6)
      have O6 := Lib.hid (own_src HO.out hg6 hgl)
      have S6 : Hid (Src B g (K + 2 * (n + 1)) w6) := hs6.more (by omega)
      have hz6 := G6.out.size
      have HGE : Hid (∀ q, (Value.slice (some ⟨b, 0, none⟩) n cp).ownBlock = some q → w.heap.size ≤ q) := fun q hq => (O6.out.lt q hq).1
      have HOX := Lib.hid (World.ownsRow.alloc O6.out (.cells #[.int .i64 x] 2))
      clear hs6 hg6 h0 h1 h2 HS HG HO
      go_wp2_with (first | (at_builtin; refine wpList_append_lies _ rfl _ _ 25 rfl w.heap.size 2 HI.out.choose (.int .i64 0) 1 8 Try.underlying25 HI.out.choose_spec.1 HI.out.choose_spec.2.1 HI.out.choose_spec.2.2.1 HI.out.choose_spec.2.2.2 rfl (by decide) (.slice (some ⟨b, 0, none⟩) n cp) n (l.map (Value.int .i64)) rfl HOX.out ⟨w6.heap.size, 0, none⟩ 1 1 [.int .i64 x] rfl rfl (World.news_of_block (heap_alloc_at _ _ _ rfl)) (by intro u hu; simp at hu; subst hu; rfl) (by omega) (by unfold maxLen; omega) (by omega) (by simp; omega) _ rfl ?_))
      intro g8 cap8 w8 hown8 hgrow8 hat8 hlt8
      have G8 : Hid (w.grownBy w8 (some g)) := gb_own (gb_alloc G6.out _) hgrow8 HGE.out
      have S8 : Hid (Src B g (K + 2 * (n + 1)) w8) := (S6.out.alloc _).own hgrow8 HGE.out hgl
      have X8 : Hid (w8.ownsRow w.heap.size 2 1 (.slice (some ⟨g8, 0, none⟩) (n + 1) cap8) (n + 1) ((l ++ [x]).map (Value.int .i64))) := by
        unfold Hid; rw [List.map_append]; exact hown8
      have N8 : Hid ((l ++ [x]).length = n + 1) := by unfold Hid; rw [List.length_append, HN.out]; rfl
      have Z8 : Hid (∀ t ∈ l ++ [x], (Lit.int .i64 t).wf = true) := fun z hz => by
        rcases List.mem_append.1 hz with hz | hz
        · exact HZ.out z hz
        · simp at hz; subst hz; exact wf_i64 (by omega) (by omega)
      clear hown8 hgrow8 hat8 hlt8
      go_wp2
      go_roundw
      case rel => exact ⟨k - 1, n + 1, g8, cap8, l ++ [x], by omega, by congr 1; omega, rfl, N8, Z8, S8, G8, X8⟩
      case measure => simp [intOf]; omega
    · have hk' : k = 0 := by omega
      subst hk'
      have hmn : n = hh := by omega
      subst hmn
      by_cases hz : n = 0
      · have HR : Hid (DrawnI B g (K + 60) 25 w (.returned (.slice (some ⟨b, 0, none⟩) n cp)) wr) := ⟨l, b, n, cp, rfl, HN, hhb, HZ, HS.out.more (by omega), HG.out, HO.out⟩
        subst hz
        go_wp2
        go_ret
        exact HR.out
      · have hmp : (0 : Int) < (n : Int) := by omega
        go_wp2_with fail
        refine (one_any B g _ 12 (by omega) _ (by omega) HS.out).mono ?_
        rintro e w6 ⟨bo, rfl, hs6, hg6⟩
        have G6 := Lib.hid (gb_trans HG.out hg6)
        have O6 := Lib.hid (own_src HO.out hg6 hgl)
        have S6 := Lib.hid hs6
        clear hs6 hg6 HS HG HO
        cases bo with
        | false =>
          have HR : Hid (DrawnI B g (K + 60) 25 w (.returned (.slice (some ⟨b, 0, none⟩) n cp)) w6) := ⟨l, b, n, cp, rfl, HN, hhb, HZ, S6.out.more (by omega), G6.out, O6.out⟩
          go_wp2
          go_ret
          exact HR.out
        | true =>
          go_wp2_with fail
          refine (among_new B g _ [-1, 0, (N : Int) - 1, (N : Int), 9223372036854775807] 5 w6 (by omega) S6.out rfl (by omega) (by omega)).mono ?_
          rintro e w8 ⟨v, rfl, hv, hs8, hg8⟩
          have hvw : (Lit.int .i64 v).wf = true := by
            simp at hv
            exact wf_i64 (by omega) (by omega)
          have o8 := own_src O6.out hg8 hgl
          have hl0 : 0 < l.length := by rw [HN.out]; omega
          have c0 := ownsRow_cell o8 0 (.int .i64 l[0]) (by simp [hl0])
          have f0 := ownsRow_frozen o8 0
          have o9 := ownsRow_set o8 0 (.int .i64 v)
          rw [← List.map_set] at o9
          have HR : Hid (DrawnI B g (K + 60) 25 w (.returned (.slice (some ⟨b, 0, none⟩) n cp)) (w8.setCell ⟨b, 0, none⟩ (.int .i64 v))) := ⟨l.set 0 v, b, n, cp, rfl, by unfold Hid; rw [List.length_set]; exact HN.out, hhb, fun x hx => by
              rcases List.mem_or_eq_of_mem_set hx with hx | rfl
              · exact HZ.out x hx
              · exact hvw, (hs8.set (by omega) _ _).more (by omega), gb_set (gb_trans G6.out hg8) hbw.1 _ _, o9⟩
          clear hs8 hg8 hv o8 o9
          go_wp2
          go_ret
          exact HR.out
/-- What the law on runs is drawn. -/
def DrawnRun (w : World) (e : Ending) (w' : World) : Prop :=
  ∃ (ts : List TBlower) (l : List Int) (f : Int) (a1 n1 c1 a2 n2 c2 : Nat), e = .returned (.tuple #[.slice (some ⟨a1, 0, none⟩) n1 c1, .slice (some ⟨a2, 0, none⟩) n2 c2, .int .i64 f]) ∧ Hid (ts.length = n1) ∧ n1 ≤ 5 ∧ Hid (wfBs ts) ∧ Hid (l.length = n2) ∧ n2 ≤ 25 ∧ Hid (∀ x ∈ l, (Lit.int .i64 x).wf = true) ∧ (-1 ≤ f ∧ f ≤ 6) ∧ Below w.heap.size w w' ∧ RR 3 cBlower w' (some ⟨a1, 0, none⟩) ts ∧ RI w' (some ⟨a2, 0, none⟩) l
theorem gb_belowB {w w1 w2 : World} {g : Nat} (h : Below w.heap.size w w1) (hg : w1.grownBy w2 (some g)) (hge : w.heap.size ≤ g) : Below w.heap.size w w2 :=
  Below.grown h hg h.size (fun k hk => by injection hk with hk; omega)
set_option maxRecDepth 100000 in
set_option maxHeartbeats 8000000 in
theorem l11Pick_any (a : Option Addr) (n c : Nat) (w : World) (hc : CodeIn w.heap.size a n w) (h1 : n ≤ 4096) :
    Calls Try.prog 75 #[.slice a n c] w (DrawnRun w) := by
  go_enter Try.func75, Try.ntmps75
  go_wp2_with fail
  refine (from_any a n c _ hc h1).mono ?_
  rintro e w1 ⟨g, rfl, hs1, hb1⟩
  have hge : w.heap.size ≤ g := hs1.1
  have B1 := Lib.hid hb1
  clear hb1
  go_wp2_with fail
  refine (bentB_any w.heap.size g 0 _ (by omega) hs1).mono ?_
  rintro e w2 ⟨ts, a1, n1, c1, rfl, HN1, hn1, HZ1, hs2, hg2, ho2⟩
  have hgl2 : g < w1.heap.size := hs1.lt
  have B2 := Lib.hid (gb_belowB B1.out hg2 hge)
  have O2 := Lib.hid ho2
  clear hg2 ho2 hs1
  go_wp2_with fail
  refine (hoursB_any w.heap.size g (0 + 60) _ (by omega) hs2).mono ?_
  rintro e w3 ⟨x, rfl, ⟨hx0, hx1⟩, hs3, hg3⟩
  obtain ⟨hh, rfl⟩ : ∃ hh : Nat, x = hh := ⟨x.toNat, by omega⟩
  have B3 := Lib.hid (gb_belowB B2.out hg3 hge)
  have O3 := Lib.hid (own_src O2.out hg3 hgl2)
  clear hg3 hs2 O2
  go_wp2_with fail
  refine (drawSets_any w.heap.size g (0 + 60 + 4) (some ⟨a1, 0, none⟩) n1 c1 hh _ (by omega) hn1 (by omega) hs3).mono ?_
  rintro e w4 ⟨l, a2, n2, c2, rfl, HN2, hn2, HZ2, hs4, hg4, ho4⟩
  have hgl3 : g < w3.heap.size := hs3.lt
  have B4 := Lib.hid (gb_belowB B3.out hg4 hge)
  have O4 := Lib.hid (own_src O3.out hg4 hgl2)
  have P4 := Lib.hid ho4
  clear hg4 ho4 hs3 O3
  have hwn := wrI (x := (n1 : Int) + 1) (by omega)
  go_wp2_with fail
  refine (pick_any w.heap.size g _ ((n1 : Int) + 1) (by omega) _ (by omega) hs4).mono ?_
  rintro e w5 ⟨y, rfl, ⟨hy0, hy1, hy2⟩, hs5, hg5⟩
  have B5 := Lib.hid (gb_belowB B4.out hg5 hge)
  have O5 := Lib.hid (own_src O4.out hg5 hgl2)
  have P5 := Lib.hid (own_src P4.out hg5 hgl3)
  have hyb : 0 ≤ y ∧ y ≤ 5 := by omega
  clear hg5 hs4 O4 P4 hy0 hy1 hy2
  go_wp2_with fail
  refine (pick_any w.heap.size g _ 16 (by omega) _ (by omega) hs5).mono ?_
  rintro e w6 ⟨z, rfl, ⟨hz0, hz1, hz2⟩, hs6, hg6⟩
  have B6 := Lib.hid (gb_belowB B5.out hg6 hge)
  have O6 := Lib.hid (own_src O5.out hg6 hgl2)
  have P6 := Lib.hid (own_src P5.out hg6 hgl3)
  obtain ⟨q, hq⟩ : ∃ q, Int.tdiv z 15 = q := ⟨_, rfl⟩
  have hqb : 0 ≤ q ∧ q ≤ 1 := by
    have h3 := hq
    rw [Int.tdiv_eq_ediv_of_nonneg hz0] at h3
    omega
  have hwf := wrI (x := y - q) (by omega)
  have hwq := wrI (x := q) (by omega)
  clear hg6 hs5 hs6 O5 P5
  go_wp2
  go_ret3
  exact ⟨ts, l, y - q, a1, n1, c1, a2, n2, c2, rfl, HN1, hn1, HZ1, HN2, hn2, HZ2, by omega, B6.out, own_RR cBlower_len HN1 O6.out, rowI_RI HN2 P6.out⟩
set_option maxRecDepth 100000 in
theorem drawRun_any (a : Option Addr) (n c : Nat) (w : World) (hc : CodeIn w.heap.size a n w) (h1 : n ≤ 4096) :
    Calls Try.prog 41 #[.slice a n c] w (DrawnRun w) := by
  have PK := l11Pick_any a n c w hc h1
  clear hc
  go_enter Try.func41, Try.ntmps41
  go_wp2_with fail
  refine PK.mono ?_
  rintro e w1 ⟨ts, l, f, a1, n1, c1, a2, n2, c2, rfl, h⟩
  go_wp2
  go_ret3
  exact ⟨ts, l, f, a1, n1, c1, a2, n2, c2, rfl, h⟩
end Go.Proofs.Ytiilgeoahpnkpaa
