/-
  NeedlessChanges: the model's walk: a table of the zones' levels.
-/
import Derived.Test.YtfejgckimlgopaaNeedless
namespace Go.Proofs.Ytfejgckimlgopaa
open Go.RowKit

theorem infoI64z : (Try.prog.info? 2).map (fun i => (i.zero, i.size, i.bytes)) = some (some (.int .i64 0), 1, 8) := by kernel_rfl
theorem made_ownZ (w : World) (lo n : Nat) (hlo : lo ≤ w.heap.size) (hn : n ≤ 1000) : (w.alloc (.cells (madeCells #[.int .i64 0] n) 2)).ownsRow lo 2 1 (.slice (some ⟨w.heap.size, 0, none⟩) n n) n ((List.replicate n (0 : Int)).map (Value.int .i64)) := by
  refine ⟨by simp, .inr ⟨w.heap.size, n, _, rfl, hlo, heap_alloc_new w _, Nat.le_refl _, by unfold maxLen; omega, by rw [size_madeCells]; omega, ?_⟩⟩
  rw [toList_madeCells_one]
  simp
theorem row_atZ {w : World} {lo : Nat} {e : TypeId} {g n cap : Nat} {l : List Int} (h : w.ownsRow lo e 1 (.slice (some ⟨g, 0, none⟩) n cap) n (l.map (Value.int .i64))) (k : Nat) (hk : k < l.length) : w.cell? ⟨g, k, none⟩ = some (.int .i64 l[k]) :=
  ownsRow_cell h k _ (by rw [List.getElem?_map, List.getElem?_eq_getElem hk]; rfl)
/-- A table of the levels behind the first k changes. -/
def LvOf (cs : List C3) (k zn : Nat) (lv : List Int) : Prop := lv.length = zn ∧ ∀ z (h : z < lv.length), lv[z] = lastL (hisL (cs.take k) (z : Int))
theorem LvOf.zero (cs : List C3) (zn : Nat) : LvOf cs 0 zn (List.replicate zn 0) := ⟨by simp, fun z h => by simp [hisL, lastL_nil]⟩
theorem LvOf.next {cs : List C3} {k zn z : Nat} {lv : List Int} (h : LvOf cs k zn lv) (hk : k < cs.length) (hz : (cs[k]).2.1 = (z : Int)) : LvOf cs (k + 1) zn (lv.set z (cs[k]).2.2) := by
  refine ⟨by simp [h.1], fun y hy => ?_⟩
  have hy' : y < lv.length := by simpa using hy
  by_cases e : z = y
  · subst e
    rw [List.getElem_set_self, hisL_hit hk hz, lastL_snoc]
  · rw [List.getElem_set_ne e, h.2 y hy', hisL_miss hk (by rw [hz]; omega)]

set_option maxRecDepth 20000 in
set_option maxHeartbeats 4000000 in
theorem specNeedlessChanges_any (w : World) {a b : Option Addr} {n c m d : Nat} (t : TZoned) (hn : Hid (t.2.1.length = n)) (ha : RI w a t.2.1) (hs : n ≤ 1048576) (hm : Hid (t.2.2.length = m)) (hb : RR 3 cChange w b t.2.2) (hs2 : m ≤ 1048576) (_wf : Hid (wfZoned t)) :
    Calls Try.prog 52 #[.agg #[.int .i64 t.1, .slice a n c, .slice b m d]] w (GivesIs 2 (needR t) w) := by
  have HA : Hid (∀ w', Below w.heap.size w w' → RI w' a t.2.1) := fun w' h => ha.below h
  have HB : Hid (∀ w', Below w.heap.size w w' → RR 3 cChange w' b t.2.2) := fun w' h => hb.below h
  have ZB := Lib.hid (zbox w t.1 a n c b m d)
  have HI : Hid (∃ i0 : TypeInfo, Try.prog.info? 2 = some i0 ∧ i0.zero = some (.int .i64 0) ∧ i0.size = 1 ∧ i0.bytes = 8) := info_parts info2
  clear ha hb
  cases hv : zonB t with
  | false =>
    have HR : Hid (needR t = ([], 1)) := by unfold Hid needR; rw [zc_no hv]; rfl
    go_enter Try.func52, Try.ntmps52
    go_wp2_with fail
    refine (l09Ok_any _ t a b n c m d _ hn (HA.out _ (by repeat (first | exact Below.refl _ _ | refine Below.alloc ?_ (by simp; try omega) _ | refine Below.setCell ?_ (by simp; try omega) _))) hs hm (HB.out _ (by repeat (first | exact Below.refl _ _ | refine Below.alloc ?_ (by simp; try omega) _ | refine Below.setCell ?_ (by simp; try omega) _))) hs2 (by simp [go_sem]) (by simp [go_sem]) (by simp [go_sem])).mono ?_
    rintro e w1 ⟨rfl, hb1⟩
    rw [hv]
    go_wp2
    go_ret2
    exact givesIs_nil HR.out (Below.trans (by repeat (first | exact Below.refl _ _ | refine Below.alloc ?_ (by simp; try omega) _ | refine Below.setCell ?_ (by simp; try omega) _)) (hb1.mono (by simp)))
  | true =>
    have HR : Hid (needR t = (needL t.2.2 m, 0)) := by unfold Hid needR; rw [zc_yes hv, if_pos rfl, hm.out]
    have hzp := zonB_of hv
    have HPW := Lib.hid (zon_pairs hzp)
    have HCH : Hid (∀ i (h : i < t.2.2.length), chB t.1 t.2.2[i] = true) := hzp.2.2.2.2.2.1
    have hfew : m ≤ 60 := by have := hzp.2.2.2.1; rw [hm.out] at this; exact this
    obtain ⟨zn, hzn⟩ : ∃ zn : Nat, t.1 = (zn : Int) := ⟨t.1.toNat, by have := hzp.1; omega⟩
    have hzn8 : zn ≤ 8 := by have := hzp.2.1; omega
    have HZN := Lib.hid hzn
    clear hzn
    obtain ⟨i0, hi, hz0, hz1, hz2⟩ := info_parts infoI64z
    have hmk := fun W => run_make_rowN (P := Try.prog) 24 2 i0 _ Try.underlying24 hi hz0 .i64 .i64 zn zn (Nat.le_refl _) (by rw [hz2]; omega) (by omega) W
    rw [hz1, show madeCells (Value.cells (.int .i64 0)) (zn * 1) = madeCells #[.int .i64 0] zn by rw [Nat.mul_one]; rfl] at hmk
    clear hi hz0 hz1 hz2
    go_enter Try.func52, Try.ntmps52
    go_wp2_with fail
    refine (l09Ok_any _ t a b n c m d _ hn (HA.out _ (by repeat (first | exact Below.refl _ _ | refine Below.alloc ?_ (by simp; try omega) _ | refine Below.setCell ?_ (by simp; try omega) _))) hs hm (HB.out _ (by repeat (first | exact Below.refl _ _ | refine Below.alloc ?_ (by simp; try omega) _ | refine Below.setCell ?_ (by simp; try omega) _))) hs2 (by simp [go_sem]) (by simp [go_sem]) (by simp [go_sem])).mono ?_
    rintro e w1 ⟨rfl, hb1⟩
    rw [hv]
    have HB1 : Hid (Below w.heap.size w w1) := Below.trans (by repeat (first | exact Below.refl _ _ | refine Below.alloc ?_ (by simp; try omega) _ | refine Below.setCell ?_ (by simp; try omega) _)) (hb1.mono (by simp))
    have Z1 : Hid (∀ w', Below w1.heap.size w1 w' → w'.cell? ⟨w.heap.size, 0, none⟩ = some (.int .i64 (zn : Int)) ∧ w'.cell? ⟨w.heap.size, 2, none⟩ = some (.slice b m d)) := fun w' h => by
      have := ZB.out _ (hb1.trans (h.mono hb1.size))
      rw [HZN.out] at this
      exact ⟨this.1, this.2.2⟩
    have hw1 := HB1.out.size
    obtain ⟨p0, p2⟩ := Z1.out _ (Below.refl _ _)
    have hlw : w.heap.size < w1.heap.size := World.block_lt_of_cell? _ _ p0
    clear hb1 hv ZB hzp
    go_wp2
    clear p0 p2 hmk
    go_loopw [4, 6] (fun vo iv wr => ∃ (k i cap : Nat) (ao : Option Addr) (l lv : List Int), k ≤ m ∧ i ≤ k ∧ vo = .slice ao i cap ∧ iv = .int .i64 (k : Int) ∧ Hid (Below w1.heap.size w1 wr) ∧ Hid (l = needL t.2.2 k) ∧ Hid (l.length = i) ∧ Hid (wr.ownsRow w1.heap.size 2 1 (.slice ao i cap) i (l.map (Value.int .i64))) ∧ Hid (LvOf t.2.2 k zn lv) ∧ Hid (wr.ownsRow w1.heap.size 2 1 (.slice (some ⟨w1.heap.size + 1, 0, none⟩) zn zn) zn (lv.map (Value.int .i64))) ∧ Hid ((Value.slice ao i cap).ownBlock ≠ some (w1.heap.size + 1))) (fun _ iv _ => m - (intOf iv).toNat)
    case atStart =>
      refine ⟨0, 0, 0, some ⟨w1.heap.size, 0, none⟩, [], _, by omega, by omega, rfl, rfl, (by repeat (first | exact Below.refl _ _ | refine Below.alloc ?_ (by simp; try omega) _ | refine Below.setCell ?_ (by simp; try omega) _)), rfl, rfl, ?_, LvOf.zero _ zn, ?_, ?_⟩
      · exact World.ownsRow.alloc (World.ownsRow_made w1 #[] 0 (Nat.le_refl _) (by unfold maxLen; omega) rfl) _
      · have := made_ownZ (w1.alloc (.cells #[] 2)) w1.heap.size zn (by simp) (by omega)
        rw [show (w1.alloc (.cells #[] 2)).heap.size = w1.heap.size + 1 by simp] at this
        exact this
      · unfold Hid; simp [Value.ownBlock]
    case round =>
      obtain ⟨k, i, cap, ao, l, lv, hk, hik, rfl, rfl, HBEL, HL, HLEN, HOWN, HLV, HLR, HNE⟩ := hrel
      obtain ⟨p0, p2⟩ := Z1.out _ HBEL.out
      have HBW : Hid (Below w.heap.size w wr) := HB1.out.trans (HBEL.out.mono hw1)
      have hwr := HBEL.out.size
      by_cases hlt : k < m
      · have hka : k < t.2.2.length := by rw [hm.out]; exact hlt
        have HHIT : Hid (needB t.2.2 t.2.2[k] = true → needL t.2.2 (k + 1) = needL t.2.2 k ++ [(k : Int)]) := fun h => needL_hit hka h
        have HMISS : Hid (needB t.2.2 t.2.2[k] = false → needL t.2.2 (k + 1) = needL t.2.2 k) := fun h => needL_miss hka h
        have hch := chB_parts (HCH.out k hka)
        obtain ⟨z, hz⟩ : ∃ z : Nat, (t.2.2[k]).2.1 = (z : Int) := ⟨(t.2.2[k]).2.1.toNat, by omega⟩
        have hzz : z < zn := by have := HZN.out; omega
        have hzl : z < lv.length := by rw [HLV.out.1]; exact hzz
        have HLN : Hid (LvOf t.2.2 (k + 1) zn (lv.set z (t.2.2[k]).2.2)) := HLV.out.next hka hz
        have HBF : Hid (needB t.2.2 t.2.2[k] = (lv[z] == (t.2.2[k]).2.2)) := by
          unfold Hid needB
          rw [levH_before HPW.out hka, hz, HLV.out.2 z hzl]
        have y0 := row_atZ HLR.out z hzl
        have yl : w1.heap.size + 1 < wr.heap.size := (HLR.out.lt _ rfl).2
        have HSET : Hid (∀ (W : World) (x : Int), W.ownsRow w1.heap.size 2 1 (.slice (some ⟨w1.heap.size + 1, 0, none⟩) zn zn) zn (lv.map (Value.int .i64)) → (W.setCell ⟨w1.heap.size + 1, z, none⟩ (.int .i64 x)).ownsRow w1.heap.size 2 1 (.slice (some ⟨w1.heap.size + 1, 0, none⟩) zn zn) zn ((lv.set z x).map (Value.int .i64))) := fun W x h => by rw [List.map_set]; exact ownsRow_set h z _
        have HAT : Hid (∀ W : World, W.ownsRow w1.heap.size 2 1 (.slice (some ⟨w1.heap.size + 1, 0, none⟩) zn zn) zn (lv.map (Value.int .i64)) → W.cell? ⟨w1.heap.size + 1, z, none⟩ = some (.int .i64 lv[z]) ∧ W.frozen? ⟨w1.heap.size + 1, z, none⟩ = false) := fun W h => ⟨row_atZ h z hzl, ownsRow_frozen h z⟩
        obtain ⟨bb, ob, rfl, hbl, hx⟩ := (HB.out _ HBW.out).at_ k hka
        have x0 := hx 0 _ rfl
        have x1 := hx 1 _ rfl
        have x2 := hx 2 _ rfl
        simp only [Nat.add_zero] at x0
        rw [hz] at x1
        generalize lv[z] = lz at y0 HBF HAT
        generalize t.2.2[k] = u at x0 x1 x2 HHIT HMISS hch HLN HBF hz
        obtain ⟨u1, u2, u3⟩ := u
        dsimp only at x0 x1 x2 hch HLN HBF hz
        clear hz
        have hk0 : (0 : Int) ≤ (k : Int) := by omega
        have hk1 : (k : Int) < (m : Int) := by omega
        have hz0 : (0 : Int) ≤ (z : Int) := by omega
        have hz1 : (z : Int) < (zn : Int) := by omega
        have HGE : Hid (∀ q, (Value.slice ao i cap).ownBlock = some q → w1.heap.size ≤ q ∧ q < wr.heap.size) := fun q hq => HOWN.out.lt q hq
        have HX : Hid (∀ q, (((wr.alloc (.cells #[.int .i64 u1, .int .i64 (z : Int), .int .i64 u3] 59)).drewN q).cell? ⟨wr.heap.size, 1, none⟩ = some (.int .i64 (z : Int))) ∧ ((wr.alloc (.cells #[.int .i64 u1, .int .i64 (z : Int), .int .i64 u3] 59)).drewN q).cell? ⟨wr.heap.size, 2, none⟩ = some (.int .i64 u3)) := fun q => ⟨keepS (Below.drewN' (Below.refl _ _) q) (by simp [go_sem]), keepS (Below.drewN' (Below.refl _ _) q) (by simp [go_sem])⟩
        have HBD : Hid (∀ q, Below wr.heap.size wr ((wr.alloc (.cells #[.int .i64 u1, .int .i64 (z : Int), .int .i64 u3] 59)).drewN q)) := fun q => Below.drewN' ((Below.refl _ _).alloc (Nat.le_refl _) _) q
        clear hx hch
        rcases eq_ways lz u3 with ⟨⟨g1, g2⟩, g3⟩ | ⟨⟨g1, g2⟩, g3⟩
        · have HN := Lib.hid (HHIT.out (by rw [HBF.out]; exact g1))
          clear HHIT HMISS g3 HBF
          go_wp2_with fail
          go_quiet (fail)
          have HB2 : Hid (Below w1.heap.size w1 ((wr.alloc (.cells #[.int .i64 u1, .int .i64 (z : Int), .int .i64 u3] 59)).drewN nq)) := HBEL.out.trans ((HBD.out nq).mono hwr)
          have HO2 : Hid (((wr.alloc (.cells #[.int .i64 u1, .int .i64 (z : Int), .int .i64 u3] 59)).drewN nq).ownsRow w1.heap.size 2 1 (.slice ao i cap) i (l.map (Value.int .i64))) := ((Row.of HOWN.out).below (HBD.out nq)).1
          have HL2 : Hid (((wr.alloc (.cells #[.int .i64 u1, .int .i64 (z : Int), .int .i64 u3] 59)).drewN nq).ownsRow w1.heap.size 2 1 (.slice (some ⟨w1.heap.size + 1, 0, none⟩) zn zn) zn (lv.map (Value.int .i64))) := ((Row.of HLR.out).below (HBD.out nq)).1
          obtain ⟨c1, c2⟩ := HX.out nq
          have hs2 := (HBD.out nq).size
          clear x0 x1 x2 y0 yl HBD HX
          generalize ((wr.alloc (.cells #[.int .i64 u1, .int .i64 (z : Int), .int .i64 u3] 59)).drewN nq) = w2 at HB2 HO2 HL2 c1 c2 hs2
          have hw2 := HB2.out.size
          have hlw2 : wr.heap.size < w2.heap.size := World.block_lt_of_cell? _ _ c1
          go_wp2_with (at_builtin; refine wpList_append_lies _ rfl _ _ 24 rfl w1.heap.size 2 HI.out.choose (.int .i64 0) 1 8 Try.underlying24 HI.out.choose_spec.1 HI.out.choose_spec.2.1 HI.out.choose_spec.2.2.1 HI.out.choose_spec.2.2.2 rfl (by decide) (.slice ao i cap) i (l.map (Value.int .i64)) rfl (HO2.out.alloc _) ⟨w2.heap.size, 0, none⟩ 1 1 [.int .i64 (k : Int)] rfl rfl (news_num _ _ _) (by intro u hu; simp at hu; subst hu; rfl) (by omega) (by unfold maxLen; omega) (by omega) (by simp; omega) (w2.heap.size + 1) (by simp) ?_)
          intro g cap' w3 hown1 hgrow hat hlt2
          have hne1 : (Value.slice ao i cap).ownBlock ≠ some wr.heap.size := fun e => by have := (HGE.out _ e).2; omega
          have B5 : Hid (Below w1.heap.size w1 w3) := (HB2.out.alloc hw2 _).grown hgrow (by simp; omega) (fun q hq => (HGE.out q hq).1)
          have O1 : Hid (w3.ownsRow w1.heap.size 2 1 (.slice (some ⟨g, 0, none⟩) (i + 1) cap') (i + 1) ((l ++ [(k : Int)]).map (Value.int .i64))) := by
            unfold Hid; rw [List.map_append]; exact hown1
          have L1 : Hid (w3.ownsRow w1.heap.size 2 1 (.slice (some ⟨w1.heap.size + 1, 0, none⟩) zn zn) zn (lv.map (Value.int .i64))) := (HL2.out.alloc _).kept hgrow (.inr (fun e => HNE.out e.symm))
          have d1 : w3.cell? ⟨wr.heap.size, 1, none⟩ = some (.int .i64 (z : Int)) := hgrow.cell (a := ⟨wr.heap.size, 1, none⟩) (keepS ((Below.refl _ _).alloc (Nat.le_refl _) _) c1) (fun e => hne1 e.symm)
          have d2 : w3.cell? ⟨wr.heap.size, 2, none⟩ = some (.int .i64 u3) := hgrow.cell (a := ⟨wr.heap.size, 2, none⟩) (keepS ((Below.refl _ _).alloc (Nat.le_refl _) _) c2) (fun e => hne1 e.symm)
          obtain ⟨f1, f2⟩ := HAT.out _ L1.out
          have HN1 : Hid ((Value.slice (some ⟨g, 0, none⟩) (i + 1) cap').ownBlock ≠ some (w1.heap.size + 1)) := by
            intro e
            simp only [Value.ownBlock] at e
            rcases hat with h | h
            · exact HNE.out (h.trans e)
            · injection e with e
              omega
          clear hown1 hgrow hat hlt2 c1 c2
          go_wp2
          go_roundw
          case rel => exact ⟨k + 1, i + 1, cap', _, l ++ [(k : Int)], _, by omega, by omega, rfl, by go_num, B5.out.setCell (by simp) _, by unfold Hid; rw [HN.out, ← HL.out], by unfold Hid; rw [List.length_append, HLEN.out]; rfl, ownsRow_setCell_other O1.out HN1.out _, HLN, HSET.out _ _ L1.out, HN1⟩
          case measure => simp [intOf]; omega
        · have HN := Lib.hid (HMISS.out (by rw [HBF.out]; exact g1))
          clear HHIT HMISS g3 HBF
          go_wp2_with fail
          go_quiet (fail)
          have HB2 : Hid (Below w1.heap.size w1 ((wr.alloc (.cells #[.int .i64 u1, .int .i64 (z : Int), .int .i64 u3] 59)).drewN nq)) := HBEL.out.trans ((HBD.out nq).mono hwr)
          have HO2 : Hid (((wr.alloc (.cells #[.int .i64 u1, .int .i64 (z : Int), .int .i64 u3] 59)).drewN nq).ownsRow w1.heap.size 2 1 (.slice ao i cap) i (l.map (Value.int .i64))) := ((Row.of HOWN.out).below (HBD.out nq)).1
          have HL2 : Hid (((wr.alloc (.cells #[.int .i64 u1, .int .i64 (z : Int), .int .i64 u3] 59)).drewN nq).ownsRow w1.heap.size 2 1 (.slice (some ⟨w1.heap.size + 1, 0, none⟩) zn zn) zn (lv.map (Value.int .i64))) := ((Row.of HLR.out).below (HBD.out nq)).1
          obtain ⟨c1, c2⟩ := HX.out nq
          clear x0 x1 x2 y0 yl HBD HX
          generalize ((wr.alloc (.cells #[.int .i64 u1, .int .i64 (z : Int), .int .i64 u3] 59)).drewN nq) = w2 at HB2 HO2 HL2 c1 c2
          obtain ⟨f1, f2⟩ := HAT.out _ HL2.out
          go_wp2
          go_roundw
          case rel => exact ⟨k + 1, i, cap, ao, l, _, by omega, by omega, rfl, by go_num, HB2.out.setCell (by simp) _, by unfold Hid; rw [HN.out, ← HL.out], HLEN, ownsRow_setCell_other HO2.out HNE.out _, HLN, HSET.out _ _ HL2.out, HNE⟩
          case measure => simp [intOf]; omega
      · have hkm : k = m := by omega
        subst hkm
        have HO : Hid (wr.ownsRow w.heap.size 2 1 (.slice ao i cap) i (l.map (Value.int .i64))) := own_lo HOWN.out hw1
        have HR2 : Hid (needR t = (l, 0)) := by unfold Hid; rw [HR.out, HL.out]
        clear HOWN
        go_wp2
        go_ret2
        exact givesIs_of HR2.out HBW.out HLEN.out HO.out
end Go.Proofs.Ytfejgckimlgopaa
