/-
  The model's l09Own: zones of one's own.
-/
import Derived.Test.YtghpefdleiebmaaZAddImpl
import Derived.Deep.RegionHeld3
namespace Go
open RowKit
section
variable {P : Program} (w : World)
/-- An append to an empty slice made by the call itself (block E), as a step of a region that draws: what comes back is a slice; only E and new blocks turn. -/
theorem step_append_copy {ops : Array Oper} {o : Oper} {a : Act} {K : Act → World → Prop} {Q : Exit → Act → World → Prop} {X : Prop} (hgd : o.guard = none) (s x : Operand) (t : TypeId)
    (ho : o.op = .call { callee := .builtin .append, args := #[s, x], argTypes := #[t, t] })
    (e : TypeId) (i : TypeInfo) (z : Value) (size bytes : Nat) (ht : P.underlying t = some (.slice e)) (hi : P.info? e = some i) (hz : i.zero = some z)
    (hsize : i.size = size) (hby : i.bytes = bytes) (hzs : z.cells.size = size) (hsz : 0 < size)
    (E : Nat) (hs : a.eval s = .slice (some ⟨E, 0, none⟩) 0 0) (hE : w.heap[E]? = some (.cells #[] e (0, 0)))
    (ad : Addr) (m c : Nat) (news : List Value) (hx : a.eval x = .slice (some ad) m c) (hl : news.length = m * size) (hnews : ∀ j u, news[j]? = some u → w.cell? (ad.add j) = some u) (h1 : ∀ u ∈ news, u.oneCell' = true)
    (h63 : m ≤ maxLen) (hbytes : m * bytes ≤ 140737488355328)
    (h : ∀ g cap w', w.grownBy w' (some E) → K (a.put o.dst (.slice (some ⟨g, 0, none⟩) m cap)) w') :
    if Region.wanted o (yielded ops a.tmps) = true then Oper.wp P o a w K Q else X := by
  have hw : Region.wanted o (yielded ops a.tmps) = true := by simp [Region.wanted, hgd]
  rw [if_pos hw]
  have hEl : E < w.heap.size := by
    rcases Nat.lt_or_ge E w.heap.size with q | q
    · exact q
    · rw [Array.getElem?_eq_none q] at hE; cases hE
  have hown : w.ownsRow E e size (.slice (some ⟨E, 0, none⟩) 0 0) 0 [] := ⟨by simp, .inr ⟨E, 0, #[], rfl, Nat.le_refl _, hE, Nat.le_refl _, by unfold maxLen; omega, by simp, by simp⟩⟩
  obtain ⟨v', w', hr, h2, h3, h4, _⟩ := run_append_own_at (P := P) w E t o.type e i z size bytes ht hi hz hsize hby hzs hsz _ 0 [] hown ad m c news hl hnews h1 (by simpa using h63) (by simpa using hbytes) (Nat.le_of_lt hEl)
  rw [Nat.zero_add] at h2
  rcases h2.2 with ⟨q, _⟩ | ⟨g, cap, cur, hv, _⟩
  · have := (h4.1 q).1; cases this
  · subst hv
    unfold Oper.wp execOp
    simp only [ho, resolve, invoke, builtin, Sem.run_bind, Sem.run_pure, Result.andThen_ok, List.map_toArray, List.map_cons, List.map_nil, hs, hx, hr]
    exact h g cap w' h3
end
end Go
namespace Go.Proofs.Ytghpefdleiebmaa
open Go.RowKit
theorem Row.grownE {lo hi : Nat} {e : TypeId} {size n : Nat} {v : Value} {xs : List Value} {w w' : World} {E : Nat} (h : Row lo hi e size v n xs w) (hg : w.grownBy w' (some E)) (hE : hi ≤ E ∨ E < lo) : Row lo hi e size v n xs w' :=
  ⟨h.1.kept hg (by
    cases hq : v.ownBlock with
    | none => exact .inl rfl
    | some p => exact .inr (fun e => by have := (h.2 p hq); injection e with e; omega)), h.2⟩
set_option maxRecDepth 20000 in
set_option maxHeartbeats 2000000 in
theorem l09Own_any (zb : Nat) (w : World) {ab ao n ca bb bo m d : Nat} (t : TZoned) (hn : Hid (t.2.1.length = n)) (ha : RI w (some ⟨ab, ao, none⟩) t.2.1) (hs : n ≤ 1048576) (hm : Hid (t.2.2.length = m)) (hb : RR 3 cChange w (some ⟨bb, bo, none⟩) t.2.2) (hs2 : m ≤ 1048576)
    (p0 : w.cell? ⟨zb, 0, none⟩ = some (.int .i64 t.1)) (p1 : w.cell? ⟨zb, 1, none⟩ = some (.slice (some ⟨ab, ao, none⟩) n ca)) (p2 : w.cell? ⟨zb, 2, none⟩ = some (.slice (some ⟨bb, bo, none⟩) m d)) :
    Calls Try.prog 69 #[.pointer (some ⟨zb, 0, none⟩)] w fun e w' => (∃ g c g2 c2, e = .returned (.agg #[.int .i64 t.1, .slice (some ⟨g, 0, none⟩) n c, .slice (some ⟨g2, 0, none⟩) m c2]) ∧ Hid (Row w.heap.size w'.heap.size 2 1 (.slice (some ⟨g, 0, none⟩) n c) n (t.2.1.map (Value.int .i64)) w')) ∧ Below w.heap.size w w' := by
  have HP : Hid (∀ W, Below w.heap.size w W → W.cell? ⟨zb, 0, none⟩ = some (.int .i64 t.1) ∧ W.cell? ⟨zb, 1, none⟩ = some (.slice (some ⟨ab, ao, none⟩) n ca) ∧ W.cell? ⟨zb, 2, none⟩ = some (.slice (some ⟨bb, bo, none⟩) m d)) := fun W hW => ⟨keepS hW p0, keepS hW p1, keepS hW p2⟩
  have HNB : zb < w.heap.size := World.block_lt_of_cell? w _ p0
  have OW : Hid (∀ W, Below w.heap.size w W → Calls Try.prog 91 #[.slice (some ⟨ab, ao, none⟩) n ca] W (GivesO 2 t.2.1 n W)) := fun W hW => ownI_any ab ao ca n t.2.1 W hn hs (ha.below hW)
  have HNW : Hid (∀ W, Below w.heap.size w W → ∀ j u, (t.2.2.flatMap cChange)[j]? = some u → W.cell? ((⟨bb, bo, none⟩ : Addr).add j) = some u) := fun W hW => (hb.below hW).newsC
  have HL : Hid ((t.2.2.flatMap cChange).length = m * 3) := by unfold Hid; rw [recsC_len, hm.out]
  have HI : Hid (∃ i0 : TypeInfo, Try.prog.info? 53 = some i0 ∧ i0.zero = some (.agg #[.int .i64 0, .int .i64 0, .int .i64 0]) ∧ i0.size = 3 ∧ i0.bytes = 24) := info_parts info53
  obtain ⟨wz, hwz⟩ : ∃ wz, w.alloc (.cells #[.int .i64 0, .slice none 0 0, .slice none 0 0] 27) = wz := ⟨_, rfl⟩
  have BZ : Hid (Below w.heap.size w wz) := by subst hwz; exact (by repeat (first | exact Below.refl _ _ | refine Below.alloc ?_ (by simp; try omega) _ | refine Below.setCell ?_ (by simp; try omega) _))
  have SZ : Hid (wz.heap.size = w.heap.size + 1) := by unfold Hid; subst hwz; simp
  have HR : Hid (∀ W, Below wz.heap.size wz W → (W.cell? ⟨w.heap.size, 0, none⟩ = some (.int .i64 0) ∧ W.cell? ⟨w.heap.size, 1, none⟩ = some (.slice none 0 0) ∧ W.cell? ⟨w.heap.size, 2, none⟩ = some (.slice none 0 0)) ∧ W.frozen? ⟨w.heap.size, 0, none⟩ = false ∧ W.frozen? ⟨w.heap.size, 1, none⟩ = false ∧ W.frozen? ⟨w.heap.size, 2, none⟩ = false) := fun W hW => by
    subst hwz
    refine ⟨⟨keepS hW ?_, keepS hW ?_, keepS hW ?_⟩, keepF hW ?_ ?_, keepF hW ?_ ?_, keepF hW ?_ ?_⟩ <;> simp [go_sem]
  have BD : Hid (Below wz.heap.size wz wz.drew) := (Below.refl _ _).drew
  have BA : Hid (∀ o, Below wz.heap.size wz (wz.drew.alloc o)) := fun o => (by (repeat (first | exact Below.refl _ _ | refine Below.drew ?_ | refine Below.drewN' ?_ _ | refine Below.alloc ?_ (by first | (simp; done) | (simp; omega)) _ | refine Below.setCell ?_ (by first | (simp; done) | (simp; omega)) _)); done)
  have BA2 : Hid (∀ o, Below wz.heap.size wz (wz.alloc o).drew) := fun o => (by (repeat (first | exact Below.refl _ _ | refine Below.drew ?_ | refine Below.drewN' ?_ _ | refine Below.alloc ?_ (by first | (simp; done) | (simp; omega)) _ | refine Below.setCell ?_ (by first | (simp; done) | (simp; omega)) _)); done)
  clear ha hb p0 p1 p2
  go_enter Try.func69, Try.ntmps69
  go_wp2_with fail
  clear hwz
  obtain ⟨p0, p1, p2⟩ := HP.out _ BZ.out
  have hzne : zb ≠ w.heap.size := by omega
  go_region_held3 (fun w' => w'.cell? ⟨zb, 0, none⟩ = some (.int .i64 t.1) ∧ w'.cell? ⟨zb, 1, none⟩ = some (.slice (some ⟨ab, ao, none⟩) n ca) ∧ w'.cell? ⟨zb, 2, none⟩ = some (.slice (some ⟨bb, bo, none⟩) m d))
    (first | exact ⟨p0, p1, p2⟩ | exact HP.out _ (BZ.out.trans ((BA2.out _).mono BZ.out.size)) | exact HP.out _ (BZ.out.trans ((Below.alloc HB1.out HB1.out.size _).mono BZ.out.size)) | exact HP.out _ (BZ.out.trans (HB2.out.mono BZ.out.size)) | exact HP.out _ (BZ.out.trans (HB1.out.mono BZ.out.size)) | (have hq := HP.out _ (BZ.out.trans (HB2.out.mono BZ.out.size)); (simp [go_sem, hq.1, hq.2.1, hq.2.2]; done)) | (have hq := HP.out _ (BZ.out.trans (HB1.out.mono BZ.out.size)); (simp [go_sem, hq.1, hq.2.1, hq.2.2]; done)))
    (first | (go_at_call 91; refine (OW.out _ (BZ.out.trans (Below.mono (by first | exact BD.out | exact BA.out _ | exact BA2.out _ | exact HB2.out) BZ.out.size))).mono ?_; rintro e w1 ⟨g1, c1, rfl, hb1, ho1⟩; have HB1 : Hid (Below wz.heap.size wz w1) := (by first | exact BD.out.trans hb1 | exact (BA.out _).trans (hb1.mono (BA.out _).size) | exact (BA2.out _).trans (hb1.mono (BA2.out _).size) | exact HB2.out.trans (hb1.mono HB2.out.size)); obtain ⟨⟨d0, d1, d2⟩, f0, f1, f2⟩ := HR.out _ HB1.out) | ((with_reducible_and_instances show (if Region.wanted { dst := some 17, op := _, type := _, pos := _, after := _, guard := none } _ = true then _ else _)); refine step_append_copy _ (by rfl) _ _ 25 (by rfl) 53 HI.out.choose (.agg #[.int .i64 0, .int .i64 0, .int .i64 0]) 3 24 Try.underlying25 HI.out.choose_spec.1 HI.out.choose_spec.2.1 HI.out.choose_spec.2.2.1 HI.out.choose_spec.2.2.2 rfl (by decide) _ (by rfl) (by first | exact heap_alloc_new w1 _ | exact heap_alloc_new wz _ | exact (hb1.block wz.heap.size (by simp)).trans (heap_alloc_new wz _)) ⟨bb, bo, none⟩ m d _ (by rfl) HL.out (HNW.out _ (BZ.out.trans (Below.mono (by first | exact BA2.out _ | exact Below.alloc HB1.out HB1.out.size _ | exact HB1.out) BZ.out.size))) (recsC_one _) (by unfold maxLen; omega) (by omega) ?_; intro g2 c2 w2 hgrow; have HB2 : Hid (Below wz.heap.size wz w2) := (by first | exact Below.grown (BA2.out _) hgrow (BA2.out _).size (fun k hk => by injection hk with hk; omega) | exact Below.grown (Below.alloc HB1.out HB1.out.size _) hgrow (Below.alloc HB1.out HB1.out.size _).size (fun k hk => by injection hk with hk; have := HB1.out.size; omega) | exact Below.grown HB1.out hgrow HB1.out.size (fun k hk => by injection hk with hk; omega)); obtain ⟨⟨d0, d1, d2⟩, f0, f1, f2⟩ := HR.out _ HB2.out))
  all_goals
    have R1 : Row (w.heap.size + 1) w2.heap.size 2 1 (.slice (some ⟨g1, 0, none⟩) n c1) n (t.2.1.map (Value.int .i64)) w2 := (by first | exact (((Row.of ho1).below (Below.alloc (Below.refl _ _) (Nat.le_refl _) _)).grownE hgrow (.inl (Nat.le_refl _))).widen (Nat.le_of_eq SZ.out.symm) (Nat.le_trans (by simp) hgrow.size) | exact ((Row.of ho1).grownE hgrow (.inr (by simp))).widen (Nat.le_trans (Nat.le_of_eq SZ.out.symm) (by simp)) hgrow.size)
    have R2 := Lib.hid ((row_setCell (row_setCell (row_setCell R1 (b := w.heap.size) (o := 0) (by omega) (.int .i64 t.1)) (b := w.heap.size) (o := 1) (by omega) (.slice (some ⟨g1, 0, none⟩) n c1)) (b := w.heap.size) (o := 2) (by omega) (.slice (some ⟨g2, 0, none⟩) m c2)).widen (lo' := w.heap.size) (by omega) (Nat.le_refl _))
    have HBF : Hid (Below w.heap.size w w2) := BZ.out.trans (HB2.out.mono BZ.out.size)
    clear R1 ho1 hgrow HB1 HB2 hb1
    go_wp2
    exact bodyPost_ret (v := .agg #[.int .i64 t.1, .slice (some ⟨g1, 0, none⟩) n c1, .slice (some ⟨g2, 0, none⟩) m c2]) (by simp [results, Try.results69, go_sem, d0, d1, d2]) rfl ⟨⟨g1, c1, g2, c2, rfl, by simpa using R2⟩, (by repeat (first | exact HBF.out | refine Below.alloc ?_ (by first | omega | (simp; done) | (simp; omega)) _ | refine Below.setCell ?_ (by first | omega | (simp; done) | (simp; omega)) _))⟩
end Go.Proofs.Ytghpefdleiebmaa
