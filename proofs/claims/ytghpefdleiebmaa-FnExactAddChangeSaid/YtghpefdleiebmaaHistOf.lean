/-
  The walk of historiesOf: a map from each zone to its changes.
-/
import Derived.Test.YtghpefdleiebmaaZoneCode
import Derived.Test.YtghpefdleiebmaaHist
import Derived.Deep.AppendLies
import Derived.Deep.RegionHeld3
namespace Go.Proofs.Ytghpefdleiebmaa
open Go.RowKit Go.Maps Go.ChangeShapes

theorem upon_run {P : Program} {R : Result Value} {v : Value} {w : World} {o : Oper} {a : Act} {K' : Act → World → Prop} {Q : Exit → Act → World → Prop}
    (h : R = .ok v w) (hK : K' (a.put o.dst v) w) : Oper.upon P o a K' Q (R.andThen fun r w' => .ok (.value r) w') := by
  subst h
  exact hK
theorem upon_skip {P : Program} {R : Result Unit} {F : World → Prop} {o : Oper} {a : Act} {K' : Act → World → Prop} {Q : Exit → Act → World → Prop}
    (h : ∃ w2, R = .ok () w2 ∧ F w2) (hK : ∀ w2, F w2 → K' (a.put o.dst undef) w2) : Oper.upon P o a K' Q (R.andThen fun _ w' => .ok .skip w') := by
  obtain ⟨w2, rfl, hl⟩ := h
  exact hK w2 hl
theorem zeroHist (w : World) : (zeroValue 71).run Try.prog w = .ok (.slice none 0 0) w := by kernel_rfl
/-- What one round leaves. -/
theorem Hist.step {V : Int → Value} {b n : Nat} {cs cs' : List C3} {c : C3} {w w1 w2 : World} {v' : Value} (h : HistV V b cs w) (hg : w.grownBy w1 (V c.2.1).ownBlock)
    (ho : w1.ownsRow (b + 1) 53 3 v' ((hisL cs c.2.1).length + 1) ((hisL cs c.2.1).flatMap cChange ++ cChange c))
    (hloc : v'.ownBlock = (V c.2.1).ownBlock ∨ ∃ g, v'.ownBlock = some g ∧ w.heap.size ≤ g) (hm : HeldMap Try.prog 2 (.slice none 0 0) b n (fun j => if j = c.2.1 then v' else V j) w2) (hg2 : w1.grownBy w2 (some b))
    (hcs : hisL cs' c.2.1 = hisL cs c.2.1 ++ [c]) (hcs' : ∀ i, ¬ i = c.2.1 → hisL cs' i = hisL cs i) : ∃ V', Hist V' b n cs' w2 :=
  ⟨_, hm, h.step hg ho hloc hg2 hcs hcs'⟩
theorem grown_from {a X w1 : World} {row : Option Nat} (hb : Below a.heap.size a X) (h : X.grownBy w1 row) : a.grownBy w1 row :=
  ⟨h.os.trans hb.os, h.tape.trans hb.tape, h.output.trans hb.output, Nat.le_trans hb.size h.size, fun k hk hne => (h.block k (Nat.lt_of_lt_of_le hk hb.size) hne).trans (hb.block k hk)⟩

set_option maxRecDepth 20000 in
set_option maxHeartbeats 4000000 in
theorem historiesOf_any (t : TZoned) (a b : Option Addr) (n c m d : Nat) (w : World) (hz : ZArg w a n b m t) :
    Calls Try.prog 43 #[.agg #[.int .i64 t.1, .slice a n c, .slice b m d]] w fun e w' => e = .returned (.map (some (w.heap.size + 1))) ∧ (∃ V, Hist V (w.heap.size + 1) m t.2.2 w') ∧ Below w.heap.size w w' := by
  have HB : Hid (∀ w', Below w.heap.size w w' → RR 3 cChange w' b t.2.2) := fun w' h => hz.hb.below h
  have HM := hz.hm
  have hs2 := hz.hs2
  have HWF : Hid (∀ x ∈ t.2.2, (Lit.int .i64 x.2.1).wf = true) := fun x hx => (hz.wf.out.2.2 x hx).2.1
  have HI : Hid (∃ i0 : TypeInfo, Try.prog.info? 53 = some i0 ∧ i0.zero = some (.agg #[.int .i64 0, .int .i64 0, .int .i64 0]) ∧ i0.size = 3 ∧ i0.bytes = 24) := info_parts info53
  have hmm := @run_makeMap Try.prog
  clear hz
  go_enter Try.func43, Try.ntmps43
  go_wp2
  clear hmm
  go_loopw [10] (fun iv wr => ∃ k : Nat, k ≤ m ∧ iv = .int .i64 k ∧ Hid (Below w.heap.size w wr) ∧ Hid (w.heap.size + 1 < wr.heap.size) ∧ Hid (∃ V, Hist V (w.heap.size + 1) k (t.2.2.take k) wr)) (fun iv _ => m - (intOf iv).toNat)
  case atStart =>
    refine ⟨0, by omega, rfl, (by repeat (first | exact Below.refl _ _ | refine Below.alloc ?_ (by simp; try omega) _ | refine Below.setCell ?_ (by simp; try omega) _)), by unfold Hid; simp, ⟨_, Hist.zero ?_⟩⟩
    have := HeldMap.made (w.alloc (.cells #[.int .i64 t.1, .slice a n c, .slice b m d] 27)) Try.prog 2 (.slice none 0 0)
    simpa using this
  case round =>
    obtain ⟨k, hk, rfl, HBEL, HLT, HG⟩ := hrel
    by_cases hlt : k < m
    · have hka : k < t.2.2.length := by rw [HM.out]; exact hlt
      obtain ⟨V, hV⟩ := HG.out
      obtain ⟨bb, ob, rfl, hbl, hx⟩ := (HB.out _ HBEL.out).at_ k hka
      have x0 := hx 0 _ rfl
      have x1 := hx 1 _ rfl
      have x2 := hx 2 _ rfl
      simp only [Nat.add_zero] at x0
      have HHIT := Lib.hid (hisL_hit hka (z := (t.2.2[k]).2.1) rfl)
      have HMISS : Hid (∀ i, ¬ i = (t.2.2[k]).2.1 → hisL (t.2.2.take (k + 1)) i = hisL (t.2.2.take k) i) := fun i h => hisL_miss hka (fun e => h e.symm)
      have hwf : (Lit.int .i64 (t.2.2[k]).2.1).wf = true := HWF.out _ (List.getElem_mem hka)
      have hll : (hisL (t.2.2.take k) (t.2.2[k]).2.1).length ≤ 1048576 := Nat.le_trans (hisL_len _ _) (by simp; omega)
      generalize t.2.2[k] = u at x0 x1 x2 HHIT HMISS hwf hll
      obtain ⟨u1, u2, u3⟩ := u
      dsimp only at x0 x1 x2 hwf hll
      have hk0 : (0 : Int) ≤ (k : Int) := by omega
      have hk1 : (k : Int) < (m : Int) := by omega
      have hblt : w.heap.size + 1 < wr.heap.size := HLT.out
      have HHV : Hid (∀ W, Below wr.heap.size wr W → HistV V (w.heap.size + 1) (t.2.2.take k) W) := fun W h => hV.2.below h
      have HHM : Hid (∀ W, Below wr.heap.size wr W → HeldMap Try.prog 2 (.slice none 0 0) (w.heap.size + 1) k V W) := fun W h => hV.1.below h
      have HLK : Hid (∀ W, Below wr.heap.size wr W → (Instr.lookup 72 (.map (some (w.heap.size + 1))) (.int .i64 u2) false).run Try.prog W = .ok (V u2) W) := fun W h => (hV.1.below h).look Try.underlying2 Try.underlying72 (zeroHist W) hwf
      have HNE : Hid ((V u2).ownBlock ≠ some wr.heap.size ∧ ∀ p, (V u2).ownBlock = some p → w.heap.size + 1 < p) := ⟨fun e => by have := ((hV.2.1 u2).lt _ e).2; omega, fun p hp => by have := ((hV.2.1 u2).lt _ hp).1; omega⟩
      have HST : Hid (∀ W W1 v', Below wr.heap.size wr W → W.grownBy W1 (V u2).ownBlock → ∃ W2, (Instr.mapUpdate 72 (.map (some (w.heap.size + 1))) (.int .i64 u2) v').run Try.prog W1 = .ok () W2 ∧ HeldMap Try.prog 2 (.slice none 0 0) (w.heap.size + 1) (k + 1) (fun j => if j = u2 then v' else V j) W2 ∧ W1.grownBy W2 (some (w.heap.size + 1))) := fun W W1 v' hW hg =>
        ((HHM.out W hW).kept hg (fun e => by have := HNE.out.2 _ e.symm; omega)).store Try.underlying2 Try.underlying72 (by unfold maxLen; omega) hwf v'
      have NEWS : Hid (∀ W : World, ∀ j u, [Value.int .i64 u1, .int .i64 u2, .int .i64 u3][j]? = some u → (W.alloc (.cells #[.int .i64 u1, .int .i64 u2, .int .i64 u3] 53)).cell? ((⟨W.heap.size, 0, none⟩ : Addr).add j) = some u) := fun W => World.news_of_block (heap_alloc_new W _)
      clear hV hwf
      go_wp2_with fail
      go_region_held3 (fun w' => w'.cell? ⟨wr.heap.size, 0, none⟩ = some (.int .i64 u1) ∧ w'.cell? ⟨wr.heap.size, 1, none⟩ = some (.int .i64 u2) ∧ w'.cell? ⟨wr.heap.size, 2, none⟩ = some (.int .i64 u3))
        (first | (simp [go_sem]; done) | (refine ⟨?_, ?_, ?_⟩ <;> (refine World.grownBy.cell hgrow ?_ (fun e => HNE.out.1 e.symm); simp [go_sem]; done)) | (refine ⟨?_, ?_, ?_⟩ <;> (refine World.grownBy.cell hgrow2 (World.grownBy.cell hgrow ?_ (fun e => HNE.out.1 e.symm)) hbb; simp [go_sem]; done)))
        (first | (with_reducible refine upon_run (HLK.out _ ?_) ?_; (focus ((repeat (first | exact Below.refl _ _ | refine Below.drew ?_ | refine Below.drewN' ?_ _ | refine Below.alloc ?_ (by first | (simp; done) | (simp; omega)) _ | refine Below.setCell ?_ (by first | (simp; done) | (simp; omega)) _)); done))) | ((with_reducible_and_instances show (if Region.wanted { dst := some 23, op := _, type := _, pos := _, after := _, guard := none } _ = true then _ else _)); refine step_append_lies _ (by rfl) _ _ 71 (by rfl) (w.heap.size + 1 + 1) 53 HI.out.choose (.agg #[.int .i64 0, .int .i64 0, .int .i64 0]) 3 24 Try.underlying71 HI.out.choose_spec.1 HI.out.choose_spec.2.1 HI.out.choose_spec.2.2.1 HI.out.choose_spec.2.2.2 rfl (by decide) (V u2) (hisL (t.2.2.take k) u2).length ((hisL (t.2.2.take k) u2).flatMap cChange) (by rfl) ((HHV.out _ (by (repeat (first | exact Below.refl _ _ | refine Below.drew ?_ | refine Below.drewN' ?_ _ | refine Below.alloc ?_ (by first | (simp; done) | (simp; omega)) _ | refine Below.setCell ?_ (by first | (simp; done) | (simp; omega)) _)); done)).1 u2) ⟨wr.heap.size + 1, 0, none⟩ 1 1 [.int .i64 u1, .int .i64 u2, .int .i64 u3] (by rfl) rfl ?_ ?_ ?_ ?_ ?_ ?_ _ rfl ?_; (focus (intro j u hj; match j, hj with | 0, hj => (simp at hj; subst hj; simp [Addr.add, go_sem]) | 1, hj => (simp at hj; subst hj; simp [Addr.add, go_sem]) | 2, hj => (simp at hj; subst hj; simp [Addr.add, go_sem]))); (focus (intro u hu; simp at hu; rcases hu with rfl | rfl | rfl <;> rfl)); (focus omega); (focus (unfold maxLen; omega)); (focus omega); (focus (simp; omega)); intro g cap w1 hown1 hgrow hat2 hlt2; have hbb : some wr.heap.size ≠ some (w.heap.size + 1) := (fun e => by injection e with e; omega)) | (have HUP := HST.out _ w1 (.slice (some ⟨g, 0, none⟩) ((hisL (t.2.2.take k) u2).length + 1) cap) (by (repeat (first | exact Below.refl _ _ | refine Below.drew ?_ | refine Below.drewN' ?_ _ | refine Below.alloc ?_ (by first | (simp; done) | (simp; omega)) _ | refine Below.setCell ?_ (by first | (simp; done) | (simp; omega)) _)); done) hgrow; with_reducible refine upon_skip HUP ?_; rintro w2 ⟨hown2, hgrow2⟩))
      all_goals
        have hG : wr.grownBy w1 (V u2).ownBlock := grown_from (a := wr) (by (repeat (first | exact Below.refl _ _ | refine Below.drew ?_ | refine Below.drewN' ?_ _ | refine Below.alloc ?_ (by first | (simp; done) | (simp; omega)) _ | refine Below.setCell ?_ (by first | (simp; done) | (simp; omega)) _)); done) hgrow
        have HN : Hid (∃ V', Hist V' (w.heap.size + 1) (k + 1) (t.2.2.take (k + 1)) w2) := Hist.step (c := (u1, u2, u3)) (HHV.out wr (Below.refl _ _)) hG hown1 (hat2.elim (fun h => .inl h.symm) (fun h => .inr ⟨g, rfl, by rw [h]; simp; try omega⟩)) hown2 hgrow2 HHIT.out HMISS.out
        have B1 : Below w.heap.size w w1 := HBEL.out.grown hG HBEL.out.size (fun q hq => by have := HNE.out.2 q hq; omega)
        have B2 : Hid (Below w.heap.size w w2) := B1.grown hgrow2 B1.size (fun q hq => by injection hq with hq; omega)
        have HL2 : Hid (w.heap.size + 1 < w2.heap.size) := by
          have h1 := hgrow2.size
          have h2 := hG.size
          unfold Hid
          omega
        clear hown1 hgrow hat2 hlt2 hown2 hgrow2 hbb hG B1 HUP
        go_wp2
        go_roundw
        case rel => exact ⟨k + 1, by omega, by go_num, B2, HL2, HN⟩
        case measure => simp [intOf]; omega
    · have hkm : k = m := by omega
      subst hkm
      have HR : Hid (∃ V, Hist V (w.heap.size + 1) k t.2.2 wr) := by
        have := HG.out
        rw [List.take_of_length_le (by rw [HM.out]; omega)] at this
        exact this
      go_wp2
      go_ret
      exact ⟨rfl, HR.out, HBEL.out⟩
end Go.Proofs.Ytghpefdleiebmaa
