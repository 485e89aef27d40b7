/-
  The walk of tubesBy: a map from each station to the tubes that begin there.
-/
import Derived.Test.YtbndminegokffaaEndOf
import Derived.Test.YtbndminegokffaaLawRow
import Derived.Maps.OwnRows
import Derived.Maps.OwnOps
import Derived.Maps.GroupsBeside
import Derived.Maps.Views
import Derived.Deep.AppendLies
import Derived.Deep.RegionHeld3
namespace Go.Proofs.Ytbndminegokffaa
open Go.RowKit Go.Maps Go.ChangeShapes

/-- The tubes among the first k that begin at a station. -/
def fromL (ts : List T3) (k : Nat) (i : Int) : List Int := ((List.range k).filter fun (j : Nat) => (ts[j]?).map (·.1) == some i).map fun (j : Nat) => (j : Int)
theorem fromL_hit {ts : List T3} {k : Nat} (hk : k < ts.length) : fromL ts (k + 1) (ts[k]).1 = fromL ts k (ts[k]).1 ++ [(k : Int)] := by
  unfold fromL
  rw [List.range_succ, List.filter_append, List.map_append]
  simp [hk]
theorem fromL_miss {ts : List T3} {k : Nat} (hk : k < ts.length) {i : Int} (h : ¬ (ts[k]).1 = i) : fromL ts (k + 1) i = fromL ts k i := by
  unfold fromL
  rw [List.range_succ, List.filter_append, List.map_append]
  simp [hk, h]
def datumOf {H : Type} (l : List Int) : DataW H := if l = [] then .nil else .slice (lits .i64 l) []
theorem lits_inj {H : Type} : ∀ l r : List Int, lits (H := H) .i64 l = lits .i64 r → l = r
  | [], [], _ => rfl
  | [], _ :: _, h => by simp [lits] at h
  | _ :: _, [], h => by simp [lits] at h
  | a :: l, b :: r, h => by
    unfold lits at h
    rw [List.map_cons, List.map_cons] at h
    injection h with h1 h2
    injection h1 with h1
    injection h1 with _ h1
    rw [h1, lits_inj (H := H) l r h2]
theorem zeroSlice (w : World) : (zeroValue 28).run Try.prog w = .ok (.slice none 0 0) w := by kernel_rfl
/-- What a look-up in a map of groups gives. -/
def Looked (w : World) (b k : Nat) (D : DataW Unit) (x : Int) (v : Value) : Prop :=
  ∃ zs, D.atKey (.int .i64 x) .nil = rowDatum .i64 v zs ∧ w.ownsInts (b + 1) 2 .i64 v zs ∧ zs.length ≤ k ∧ w.groupBack Try.prog 62 2 (b + 1) 2 .i64 b k D (.int .i64 x) (.int .i64 x) v
theorem groups_at {w : World} {b k : Nat} {D : DataW Unit} {x : Int} (h : w.ownsGroups Try.prog 2 (b + 1) 2 .i64 b k D) (hk : k < maxLen) (hkey : keyOf Try.prog 2 (.int .i64 x) = some (.int .i64 x)) :
    ∃ v, (Instr.lookup 62 (.map (some b)) (.int .i64 x) false).run Try.prog w = .ok v w ∧ Looked w b k D x v := by
  obtain ⟨v, zs, hrun, hat, hoi, hzl, hback⟩ := h.at (int_keyed Try.underlying2) Try.underlying62 (zeroSlice w) hk hkey
  exact ⟨v, hrun, zs, hat, hoi, hzl, hback⟩
theorem upon_skip {P : Program} {R : Result Unit} {F : World → Prop} {o : Oper} {a : Act} {K' : Act → World → Prop} {Q : Exit → Act → World → Prop}
    (h : ∃ w2, R = .ok () w2 ∧ F w2) (hK : ∀ w2, F w2 → K' (a.put o.dst undef) w2) : Oper.upon P o a K' Q (R.andThen fun _ w' => .ok .skip w') := by
  obtain ⟨w2, rfl, hl⟩ := h
  exact hK w2 hl
theorem grown_skip {X w1 : World} {o : Obj} {row : Option Nat} (h : ((X.alloc o).drew).grownBy w1 row) : (X.drew).grownBy w1 row := by
  refine ⟨h.os, h.tape, h.output, Nat.le_trans (by simp) h.size, fun k hk hne => ?_⟩
  have hk' : k < X.heap.size := by simpa using hk
  refine (h.block k (by simp; omega) hne).trans ?_
  show (X.alloc o).heap[k]? = X.heap[k]?
  unfold World.alloc
  simp only
  rw [Array.getElem?_push, if_neg (by omega)]
theorem looked_elim {w : World} {b k : Nat} {D : DataW Unit} {x : Int} {v : Value} (h : Looked w b k D x v) : ∃ zs, D.atKey (.int .i64 x) .nil = rowDatum .i64 v zs ∧ w.ownsInts (b + 1) 2 .i64 v zs ∧ zs.length ≤ k ∧ w.groupBack Try.prog 62 2 (b + 1) 2 .i64 b k D (.int .i64 x) (.int .i64 x) v := h
theorem upon_gen {P : Program} {R : Result Value} {w : World} {F : Value → Prop} {o : Oper} {a : Act} {K' : Act → World → Prop} {Q : Exit → Act → World → Prop}
    (h : ∃ v, R = .ok v w ∧ F v) (hK : ∀ v, F v → K' (a.put o.dst v) w) : Oper.upon P o a K' Q (R.andThen fun r w' => .ok (.value r) w') := by
  obtain ⟨v, rfl, hl⟩ := h
  exact hK v hl
theorem step_app {ops : Array Oper} {d0 : Option Nat} {ty0 : TypeId} {ps0 : String} {af0 : Array Edge} {s x : Operand} {a : Act} {K' : Act → World → Prop} {Q : Exit → Act → World → Prop} {X : Prop} {w : World} {base n : Nat} {v : Value} {xs : List Value} {ad : Addr} {z : Int}
    (hs : a.eval s = v) (hown : w.ownsRow base 2 1 v n xs) (hx : a.eval x = .slice (some ad) 1 1) (hnews : ∀ j u, [Value.int .i64 z][j]? = some u → w.cell? (ad.add j) = some u) (hn : n ≤ 1048576) (hbase : base ≤ w.heap.size)
    (h : ∀ g cap w', w'.ownsRow base 2 1 (.slice (some ⟨g, 0, none⟩) (n + 1) cap) (n + 1) (xs ++ [.int .i64 z]) → w.grownBy w' v.ownBlock → (v.ownBlock = some g ∨ g = w.heap.size) → g < w'.heap.size → K' (a.put d0 (.slice (some ⟨g, 0, none⟩) (n + 1) cap)) w') :
    if Region.wanted ({ dst := d0, op := .call { callee := .builtin .append, args := #[s, x], argTypes := #[28, 28] }, type := ty0, pos := ps0, after := af0, guard := none } : Oper) (yielded ops a.tmps) = true then Oper.wp Try.prog ({ dst := d0, op := .call { callee := .builtin .append, args := #[s, x], argTypes := #[28, 28] }, type := ty0, pos := ps0, after := af0, guard := none } : Oper) a w K' Q else X := by
  obtain ⟨i0, hi, hz0, hz1, hz2⟩ := info_parts info2
  exact step_append_lies (P := Try.prog) (w := w) rfl s x 28 rfl base 2 i0 (.int .i64 0) 1 8 Try.underlying28 hi hz0 hz1 hz2 rfl (by decide) v n xs hs hown ad 1 1 [.int .i64 z] hx rfl hnews (by intro u hu; simp at hu; subst hu; rfl) (by omega) (by unfold maxLen; omega) (by omega) hbase _ rfl h
theorem fromFn_any (t : T3) (w : World) : Calls Try.prog 37 #[.agg #[.int .i64 t.1, .int .i64 t.2.1, .int .i64 t.2.2]] w fun e w' => e = .returned (.int .i64 t.1) ∧ w.alloc (.cells #[.int .i64 t.1, .int .i64 t.2.1, .int .i64 t.2.2] 36) = w' := by
  go_enter Try.func37, Try.ntmps37
  go_wp2
  go_ret
  exact ⟨rfl, rfl⟩

theorem own_ne_type {w : World} {lo n k : Nat} {e e' : TypeId} {size : Nat} {v : Value} {xs : List Value} {c : Array Value} {fr : Nat × Nat} (h : w.ownsRow lo e size v n xs) (hb : w.heap[k]? = some (.cells c e' fr)) (hne : ¬ e = e') : v.ownBlock ≠ some k := by
  intro hv
  rcases h.2 with ⟨rfl, _⟩ | ⟨g, cap, cur, rfl, _, hg, _⟩
  · simp [Value.ownBlock] at hv
  · have : g = k := by simp [Value.ownBlock] at hv; omega
    subst this
    rw [hg] at hb
    injection hb with hb
    injection hb with _ h2 _
    exact hne h2
theorem datum_eq {H : Type} {w : World} {base : Nat} {e : TypeId} {v : Value} {zs l : List Int} (h : w.ownsInts base e .i64 v zs) (hd : rowDatum (H := H) .i64 v zs = datumOf l) : zs = l := by
  unfold datumOf at hd
  rcases h.datum (H := H) with ⟨h1, h2⟩ | h1
  · rw [h1] at hd
    by_cases hl : l = []
    · rw [h2, hl]
    · rw [if_neg hl] at hd; cases hd
  · rw [h1] at hd
    by_cases hl : l = []
    · rw [if_pos hl] at hd; cases hd
    · rw [if_neg hl] at hd
      injection hd with hd _
      exact lits_inj (H := H) _ _ hd

/-- A map of groups that tells of each station the tubes that begin there. -/
def Groups (w : World) (b : Nat) (ts : List T3) (k : Nat) : Prop := ∃ D : DataW Unit, w.ownsGroups Try.prog 2 (b + 1) 2 .i64 b k D ∧ IsMap D ∧ ∀ i : Int, D.atKey (.int .i64 i) .nil = datumOf (fromL ts k i)
theorem groups_step {w w1 w2 : World} {b k g cap : Nat} {ts : List T3} {t : T3} {D : DataW Unit} {v : Value} {zs : List Int} (hisD : IsMap D) (hD : ∀ i : Int, D.atKey (.int .i64 i) .nil = datumOf (fromL ts k i)) (hat : D.atKey (.int .i64 t.1) .nil = rowDatum .i64 v zs) (hoi : w.ownsInts (b + 1) 2 .i64 v zs)
    (ha1 : w1.ownsInts (b + 1) 2 .i64 (.slice (some ⟨g, 0, none⟩) (zs.length + 1) cap) (zs ++ [(k : Int)])) (hown2 : w2.ownsGroups Try.prog 2 (b + 1) 2 .i64 b (k + 1) (D.put (.int .i64 t.1) (rowDatum .i64 (.slice (some ⟨g, 0, none⟩) (zs.length + 1) cap) (zs ++ [(k : Int)]))))
    (hhit : fromL ts (k + 1) t.1 = fromL ts k t.1 ++ [(k : Int)]) (hmiss : ∀ i, ¬ t.1 = i → fromL ts (k + 1) i = fromL ts k i) : Groups w2 b ts (k + 1) := by
  refine ⟨_, hown2, hisD.put _ _, fun i => ?_⟩
  have hz : zs = fromL ts k t.1 := datum_eq hoi (hat.symm.trans (hD t.1))
  by_cases e : i = t.1
  · subst e
    rw [atKey_put_same (k := .int .i64 t.1) hisD (show WideAt.IsKeyLit (.int .i64 t.1) from trivial), ha1.datum_pos (by simp), hhit, ← hz]
    unfold datumOf
    rw [if_neg (by simp)]
  · rw [atKey_put_other (fun h => e (by injection h))]
    rw [hD i, hmiss i (fun h => e h.symm)]
theorem groups_below {w w' : World} {b k : Nat} {D : DataW Unit} (h : w.ownsGroups Try.prog 2 (b + 1) 2 .i64 b k D) (hb : Below w.heap.size w w') : w'.ownsGroups Try.prog 2 (b + 1) 2 .i64 b k D :=
  h.kept (grown_below hb none) (by simp) (fun _ _ _ x _ => by cases x.val.ownBlock <;> simp)

set_option maxHeartbeats 4000000 in
theorem tubesBy_any (s : Int) (a : Option Addr) (ts : List T3) (n ca : Nat) (w : World) (hn : Hid (ts.length = n)) (ha : RT w a ts) (hnet : netB s ts = true) :
    Calls Try.prog 36 #[.agg #[.int .i64 s, .slice a n ca], .func (.func 37) #[] #[]] w fun e w' => e = .returned (.map (some (w.heap.size + 1))) ∧ Groups w' (w.heap.size + 1) ts n ∧ Below w.heap.size w w' := by
  have HA : Hid (∀ w', Below w.heap.size w w' → RT w' a ts) := fun w' h => ha.below h
  obtain ⟨_, h10, h24, hT⟩ := netB_parts hnet
  rw [hn.out] at h24
  have HT := Lib.hid hT
  have H10 := Lib.hid h10
  have HI : Hid (∃ i0 : TypeInfo, Try.prog.info? 2 = some i0 ∧ i0.zero = some (.int .i64 0) ∧ i0.size = 1 ∧ i0.bytes = 8) := info_parts info2
  have hmm := @run_makeMap Try.prog
  clear ha hnet hT h10
  go_enter Try.func36, Try.ntmps36
  go_wp2
  clear hmm
  go_loopw [12] (fun iv wr => ∃ k : Nat, k ≤ n ∧ iv = .int .i64 k ∧ Below w.heap.size w wr ∧ Hid (w.heap.size + 1 < wr.heap.size) ∧ Hid (Groups wr (w.heap.size + 1) ts k)) (fun iv _ => n - (intOf iv).toNat)
  case atStart =>
    refine ⟨0, by omega, rfl, (by repeat (first | exact Below.refl _ _ | refine Below.alloc ?_ (by simp; try omega) _ | refine Below.setCell ?_ (by simp; try omega) _)), by unfold Hid; simp, .map [], ?_, ⟨[], rfl⟩, fun i => rfl⟩
    have := World.ownsGroups_made (H := Unit) (w.alloc (.cells #[.int .i64 s, .slice a n ca] 26)) Try.prog 2 2 .i64
    simpa using this
  case round =>
    obtain ⟨k, hk, rfl, hbel, HLT, HGR⟩ := hrel
    by_cases hlt : k < n
    · have hka : k < ts.length := by rw [hn.out]; exact hlt
      obtain ⟨ba, oa, rfl, hba, hca⟩ := (HA.out w (Below.refl _ _)).addr (by omega)
      obtain ⟨y1, y2, y3⟩ := hca k hka
      have hmem := HT.out _ (List.getElem_mem hka)
      unfold tubeB at hmem
      have hmem := of_decide_eq_true hmem
      have HHIT := Lib.hid (fromL_hit hka)
      have HMISS : Hid (∀ i, ¬ (ts[k]).1 = i → fromL ts (k + 1) i = fromL ts k i) := fun i h => fromL_miss hka h
      generalize ts[k] = t at y1 y2 y3 hmem HHIT HMISS
      rw [← hbel.cell (p := ⟨ba, _, none⟩) hba] at y1 y2 y3
      have hk0 : (0 : Int) ≤ (k : Int) := by omega
      have hk1 : (k : Int) < (n : Int) := by omega
      have hwf : (Lit.int .i64 t.1).wf = true := WalkArith.wf_i64 (by have := H10.out; omega)
      have HMX : Hid (k < maxLen) := by unfold Hid maxLen; omega
      have HWK : Hid ((Lit.int .i64 (k : Int)).wf = true) := WalkArith.wf_i64 (by omega)
      have HBEL := Lib.hid hbel
      obtain ⟨D, hown, hisD, hD⟩ := HGR.out
      have HOWN : Hid (∀ W, Below wr.heap.size wr W → W.ownsGroups Try.prog 2 (w.heap.size + 1 + 1) 2 .i64 (w.heap.size + 1) k D) := fun W h => groups_below hown h
      have HKEY : Hid (keyOf Try.prog 2 (.int .i64 t.1) = some (.int .i64 t.1)) := keyOf_int_mk Try.underlying2 hwf
      have HIS := Lib.hid hisD
      have HD := Lib.hid hD
      have HBOX : Hid (∀ W, Below (wr.alloc (.cells #[.int .i64 t.1, .int .i64 t.2.1, .int .i64 t.2.2] 36)).heap.size (wr.alloc (.cells #[.int .i64 t.1, .int .i64 t.2.1, .int .i64 t.2.2] 36)) W → W.heap[wr.heap.size]? = some (.cells #[.int .i64 t.1, .int .i64 t.2.1, .int .i64 t.2.2] 36 (0, 0))) := fun W h => (h.block _ (by simp)).trans (heap_alloc_new wr _)
      have HNE : Hid (∀ W v zs, W.ownsInts (w.heap.size + 1 + 1) 2 .i64 v zs → Below (wr.alloc (.cells #[.int .i64 t.1, .int .i64 t.2.1, .int .i64 t.2.2] 36)).heap.size (wr.alloc (.cells #[.int .i64 t.1, .int .i64 t.2.1, .int .i64 t.2.2] 36)) W → v.ownBlock ≠ some wr.heap.size) := fun W v zs h hb => own_ne_type h.1 (HBOX.out W hb) (by decide)
      clear hbel hca hmem hown hisD hD hwf
      go_wp2_with fail
      go_region_held3 (fun w' => w'.cell? ⟨wr.heap.size, 0, none⟩ = some (.int .i64 t.1) ∧ w'.cell? ⟨wr.heap.size, 1, none⟩ = some (.int .i64 t.2.1) ∧ w'.cell? ⟨wr.heap.size, 2, none⟩ = some (.int .i64 t.2.2))
        (first | (simp [go_sem]; done) | (refine ⟨?_, ?_, ?_⟩ <;> (refine World.grownBy.cell hgrow ?_ (fun e => hnv e.symm); simp [go_sem]; done)) | (refine ⟨?_, ?_, ?_⟩ <;> (refine World.grownBy.cell hgrow2 (World.grownBy.cell hgrow ?_ (fun e => hnv e.symm)) hbb; simp [go_sem]; done)))
        (first | (go_at_call 37; refine (fromFn_any t _).mono ?_; rintro e w' ⟨rfl, rfl⟩) | (have hga := fun W h => groups_at (HOWN.out W h) HMX.out HKEY.out; with_reducible refine upon_gen (hga _ ?_) ?_; (focus ((repeat (first | exact Below.refl _ _ | refine Below.drew ?_ | refine Below.alloc ?_ (by first | (simp; done) | (simp; omega)) _)); done)); intro v hlk; obtain ⟨zs, hat, hoi, hzl, hback⟩ := looked_elim hlk; clear hlk; have hnv := HNE.out _ v zs hoi ?_; rotate_left; (focus ((repeat (first | exact Below.refl _ _ | refine Below.drew ?_ | refine Below.alloc ?_ (by first | (simp; done) | (simp; omega)) _)); done))) | ((with_reducible_and_instances show (if Region.wanted { dst := some 28, op := _, type := _, pos := _, after := _, guard := none } _ = true then _ else _)); refine step_append_lies _ (by rfl) _ _ 28 (by rfl) (w.heap.size + 1 + 1) 2 HI.out.choose (.int .i64 0) 1 8 Try.underlying28 HI.out.choose_spec.1 HI.out.choose_spec.2.1 HI.out.choose_spec.2.2.1 HI.out.choose_spec.2.2.2 rfl (by decide) v zs.length (zs.map (Value.int .i64)) (by rfl) (by first | exact hoi.1 | exact hoi.1.alloc _) _ 1 1 [.int .i64 (k : Int)] (by rfl) rfl ?_ ?_ ?_ ?_ ?_ ?_ _ rfl ?_; (focus (intro j u hj; match j, hj with | 0, hj => (simp at hj; subst hj; simp [Addr.add, go_sem]))); (focus (intro u hu; simp at hu; subst hu; rfl)); (focus omega); (focus (unfold maxLen; omega)); (focus omega); (focus (simp; have := HLT.out; omega)); intro g cap w1 hown1 hgrow hat2 hlt2; have hbb : some wr.heap.size ≠ some (w.heap.size + 1) := (fun e => by injection e with e; have := HLT.out; omega)) | (have ha1 := hoi.appended hown1 HWK.out; have hb2 := fun h => hback w1 _ _ h ha1; have ha2 := hb2 (by first | (with_reducible exact hgrow) | (with_reducible exact grown_skip hgrow)); have ha3 := ha2 (by simpa using hzl); have HUP := ha3 (hat2.elim (fun h => .inl (by rw [h]; rfl)) (fun h => .inr ⟨g, rfl, by rw [h]; simp⟩)); with_reducible refine upon_skip HUP ?_; rintro w2 ⟨hown2, hgrow2⟩))
      all_goals
        have B1 : Below w.heap.size w w1 := Below.grown (two_worldsC HBEL.out (by (repeat (first | exact Below.refl _ _ | refine Below.drew ?_ | refine Below.drewN' ?_ _ | refine Below.alloc ?_ (by first | (simp; done) | (simp; omega)) _ | refine Below.setCell ?_ (by first | (simp; done) | (simp; omega)) _)); done)) hgrow (by simp; have := HBEL.out.size; omega) (fun q hq => by have := (hoi.1.lt q hq).1; omega)
        have B2 : Hid (Below w.heap.size w w2) := B1.grown hgrow2 B1.size (fun q hq => by injection hq with hq; omega)
        have HL2 : Hid (w.heap.size + 1 < w2.heap.size) := by
          have h1 := hgrow2.size
          have h2 := hgrow.size
          simp at h2
          have := HLT.out
          unfold Hid
          omega
        have HG2 : Hid (Groups w2 (w.heap.size + 1) ts (k + 1)) := groups_step HIS.out HD.out hat hoi ha1 hown2 HHIT.out HMISS.out
        clear hat hoi hzl hback hnv hown1 hgrow hat2 hlt2 hown2 hgrow2 hbb B1 ha1 HUP ha2 ha3 hb2
        go_wp2
        go_roundw
        case rel => exact ⟨k + 1, by omega, by go_num, B2.out, HL2.out, HG2.out⟩
        case measure => simp [intOf]; omega
    · have hkn : k = n := by omega
      subst hkn
      have HBEL := Lib.hid hbel
      clear hbel
      go_wp2
      go_ret
      exact ⟨rfl, HGR.out, HBEL.out⟩
end Go.Proofs.Ytbndminegokffaa
