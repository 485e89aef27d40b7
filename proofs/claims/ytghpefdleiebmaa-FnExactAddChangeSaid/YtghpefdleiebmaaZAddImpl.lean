/-
  The program's AddChange.
-/
import Derived.Test.YtghpefdleiebmaaZAddMem
namespace Go.Proofs.Ytghpefdleiebmaa
open Go.RowKit

theorem keepF {w w' : World} {lo : Nat} {p : Addr} (hb : Below lo w w') (h : p.block < lo) (hf : w.frozen? p = false) : w'.frozen? p = false := (World.frozen?_of_block (hb.block p.block h)).trans hf
theorem first_run {b off m d k : Nat} (hd : m ≤ d) (hk : k ≤ m) (W : World) : (Instr.slice 25 (.slice (some ⟨b, off, none⟩) m d) none (some (.int .i64 (k : Int))) (some (.int .i64 (k : Int)))).run Try.prog W = .ok (.slice (some ⟨b, off, none⟩) k k) W := by
  have hu : Try.prog.underlying 25 = some (.slice (Try.prog.elem 25)) := by kernel_rfl
  have hz : ∀ W : World, (sizeOf (Try.prog.elem 25)).run Try.prog W = .ok 3 W := fun W => by kernel_rfl
  have h := Go.run_slice_hm (P := Try.prog) W 25 (some ⟨b, off, none⟩) m d hu .i64 .i64 (k : Int) (k : Int) (by omega) (by omega) (by omega)
  rw [hz, Result.andThen] at h
  rw [h, sliced]
  by_cases e : k = 0 <;> simp [e, Addr.add_lit]
set_option maxRecDepth 20000 in
set_option maxHeartbeats 4000000 in
theorem implAddChange_any (w : World) {ab ao n ca bb bo m d : Nat} (t : TZoned) (hn : Hid (t.2.1.length = n)) (ha : RI w (some ⟨ab, ao, none⟩) t.2.1) (hs : n ≤ 1048576) (hm : Hid (t.2.2.length = m)) (hb : RR 3 cChange w (some ⟨bb, bo, none⟩) t.2.2) (hs2 : m ≤ 1048576) (hd : m ≤ d) (wf : Hid (wfZoned t)) (c : C3) :
    Calls Try.prog 28 #[.agg #[.int .i64 t.1, .slice (some ⟨ab, ao, none⟩) n ca, .slice (some ⟨bb, bo, none⟩) m d], .agg #[.int .i64 c.1, .int .i64 c.2.1, .int .i64 c.2.2]] w (GivesAZ (addZ t c) w) := by
  have HZ : Hid (∀ w', Below w.heap.size w w' → ZArg w' (some ⟨ab, ao, none⟩) n (some ⟨bb, bo, none⟩) m t) := fun w' h => (ZArg.mk hn ha hs hm hb hs2 wf).below h
  have CK : Hid (∀ W, Below w.heap.size w W → Calls Try.prog 59 #[.agg #[.int .i64 t.1, .slice (some ⟨ab, ao, none⟩) n ca, .slice (some ⟨bb, bo, none⟩) m d]] W fun e w' => e = .returned (.int .i64 (zc t)) ∧ Below W.heap.size W w') := fun W hW => checkZoned_any t _ _ n ca m d W (HZ.out W hW)
  have HA : Hid (∀ w', Below w.heap.size w w' → RI w' (some ⟨ab, ao, none⟩) t.2.1) := fun w' h => ha.below h
  have HB : Hid (∀ w', Below w.heap.size w w' → RR 3 cChange w' (some ⟨bb, bo, none⟩) t.2.2) := fun w' h => hb.below h
  clear ha hb
  obtain ⟨c1, c2, c3⟩ := c
  have HF : Hid (∀ W, Below (((w.alloc (.cells #[.int .i64 t.1, .slice (some ⟨ab, ao, none⟩) n ca, .slice (some ⟨bb, bo, none⟩) m d] 27)).alloc (.cells #[.int .i64 c1, .int .i64 c2, .int .i64 c3] 53)).alloc (.cells #[.int .i64 0, .slice none 0 0, .slice none 0 0] 27)).heap.size (((w.alloc (.cells #[.int .i64 t.1, .slice (some ⟨ab, ao, none⟩) n ca, .slice (some ⟨bb, bo, none⟩) m d] 27)).alloc (.cells #[.int .i64 c1, .int .i64 c2, .int .i64 c3] 53)).alloc (.cells #[.int .i64 0, .slice none 0 0, .slice none 0 0] 27)) W →
      (W.cell? ⟨w.heap.size, 0, none⟩ = some (.int .i64 t.1) ∧ W.cell? ⟨w.heap.size, 1, none⟩ = some (.slice (some ⟨ab, ao, none⟩) n ca) ∧ W.cell? ⟨w.heap.size, 2, none⟩ = some (.slice (some ⟨bb, bo, none⟩) m d)) ∧
      (W.cell? ⟨w.heap.size + 1, 0, none⟩ = some (.int .i64 c1) ∧ W.cell? ⟨w.heap.size + 1, 1, none⟩ = some (.int .i64 c2) ∧ W.cell? ⟨w.heap.size + 1, 2, none⟩ = some (.int .i64 c3)) ∧
      (W.cell? ⟨w.heap.size + 1 + 1, 0, none⟩ = some (.int .i64 0) ∧ W.cell? ⟨w.heap.size + 1 + 1, 1, none⟩ = some (.slice none 0 0) ∧ W.cell? ⟨w.heap.size + 1 + 1, 2, none⟩ = some (.slice none 0 0)) ∧
      (W.frozen? ⟨w.heap.size + 1 + 1, 0, none⟩ = false ∧ W.frozen? ⟨w.heap.size + 1 + 1, 1, none⟩ = false ∧ W.frozen? ⟨w.heap.size + 1 + 1, 2, none⟩ = false)) := fun W hW => by
    refine ⟨⟨keepS hW ?_, keepS hW ?_, keepS hW ?_⟩, ⟨keepS hW ?_, keepS hW ?_, keepS hW ?_⟩, ⟨keepS hW ?_, keepS hW ?_, keepS hW ?_⟩, keepF hW ?_ ?_, keepF hW ?_ ?_, keepF hW ?_ ?_⟩ <;> simp [go_sem]
  have BL : Hid (Below w.heap.size w (((w.alloc (.cells #[.int .i64 t.1, .slice (some ⟨ab, ao, none⟩) n ca, .slice (some ⟨bb, bo, none⟩) m d] 27)).alloc (.cells #[.int .i64 c1, .int .i64 c2, .int .i64 c3] 53)).alloc (.cells #[.int .i64 0, .slice none 0 0, .slice none 0 0] 27))) := (by repeat (first | exact Below.refl _ _ | refine Below.alloc ?_ (by simp; try omega) _ | refine Below.setCell ?_ (by simp; try omega) _))
  have BZ : Hid ((((w.alloc (.cells #[.int .i64 t.1, .slice (some ⟨ab, ao, none⟩) n ca, .slice (some ⟨bb, bo, none⟩) m d] 27)).alloc (.cells #[.int .i64 c1, .int .i64 c2, .int .i64 c3] 53)).alloc (.cells #[.int .i64 0, .slice none 0 0, .slice none 0 0] 27)).heap.size = w.heap.size + 1 + 1 + 1) := by unfold Hid; simp
  cases hz : zonB t with
  | false =>
    have HR := Lib.hid (addZ_bad (c := (c1, c2, c3)) hz)
    have hzc := zc_no hz
    rw [hzc] at CK
    clear hz hzc
    go_enter Try.func28, Try.ntmps28
    go_wp2_with fail
    obtain ⟨wz, hwz⟩ : ∃ wz, (((w.alloc (.cells #[.int .i64 t.1, .slice (some ⟨ab, ao, none⟩) n ca, .slice (some ⟨bb, bo, none⟩) m d] 27)).alloc (.cells #[.int .i64 c1, .int .i64 c2, .int .i64 c3] 53)).alloc (.cells #[.int .i64 0, .slice none 0 0, .slice none 0 0] 27)) = wz := ⟨_, rfl⟩
    rw [hwz] at HF BL BZ ⊢
    clear hwz
    refine (CK.out _ BL.out).mono ?_
    rintro e w1 ⟨rfl, hb1⟩
    obtain ⟨⟨p0, p1, p2⟩, ⟨e0, e1, e2⟩, ⟨d0, d1, d2⟩, f0, f1, f2⟩ := HF.out _ hb1
    have HB1 : Hid (Below w.heap.size w w1) := BL.out.trans (hb1.mono BL.out.size)
    clear hb1
    go_wp2
    exact bodyPost_ret (v := .tuple #[.agg #[.int .i64 0, .slice none 0 0, .slice none 0 0], .int .i64 1]) (by simp [results, Try.results28, go_sem, d0, d1, d2]) rfl (givesAZ_nil HR.out (by repeat (first | exact HB1.out | refine Below.alloc ?_ (by first | omega | (simp; done) | (simp; omega)) _ | refine Below.setCell ?_ (by first | omega | (simp; done) | (simp; omega)) _)))
  | true =>
    have hzp := zonB_of hz
    have hzc := zc_yes hz
    rw [hzc] at CK
    clear hzc
    have HIO := fun W => isOf_any (c1, c2, c3) t.1 W (by have := hzp.1; have := hzp.2.1; omega)
    dsimp only at HIO
    cases hc : chB t.1 (c1, c2, c3) with
    | false =>
      have HR := Lib.hid (addZ_range hz hc)
      rw [hc] at HIO
      clear hz hc hzp
      go_enter Try.func28, Try.ntmps28
      go_wp2_with fail
      obtain ⟨wz, hwz⟩ : ∃ wz, (((w.alloc (.cells #[.int .i64 t.1, .slice (some ⟨ab, ao, none⟩) n ca, .slice (some ⟨bb, bo, none⟩) m d] 27)).alloc (.cells #[.int .i64 c1, .int .i64 c2, .int .i64 c3] 53)).alloc (.cells #[.int .i64 0, .slice none 0 0, .slice none 0 0] 27)) = wz := ⟨_, rfl⟩
      rw [hwz] at HF BL BZ ⊢
      clear hwz
      refine (CK.out _ BL.out).mono ?_
      rintro e w1 ⟨rfl, hb1⟩
      obtain ⟨⟨p0, p1, p2⟩, ⟨e0, e1, e2⟩, ⟨d0, d1, d2⟩, f0, f1, f2⟩ := HF.out _ hb1
      have HB1 : Hid (Below w.heap.size w w1) := BL.out.trans (hb1.mono BL.out.size)
      have HBZ : Hid (Below wz.heap.size wz w1) := hb1
      clear hb1
      go_wp2_with fail
      refine (HIO _).mono ?_
      rintro e w2 ⟨rfl, hb2⟩
      have HBZ2 : Hid (Below wz.heap.size wz w2) := HBZ.out.trans (hb2.mono HBZ.out.size)
      have HB2 : Hid (Below w.heap.size w w2) := BL.out.trans (HBZ2.out.mono BL.out.size)
      clear p0 p1 p2 e0 e1 e2 d0 d1 d2 f0 f1 f2 hb2
      obtain ⟨⟨p0, p1, p2⟩, ⟨e0, e1, e2⟩, ⟨d0, d1, d2⟩, f0, f1, f2⟩ := HF.out _ HBZ2.out
      go_wp2
      exact bodyPost_ret (v := .tuple #[.agg #[.int .i64 0, .slice none 0 0, .slice none 0 0], .int .i64 2]) (by simp [results, Try.results28, go_sem, d0, d1, d2]) rfl (givesAZ_nil HR.out (by repeat (first | exact HB2.out | refine Below.alloc ?_ (by first | omega | (simp; done) | (simp; omega)) _ | refine Below.setCell ?_ (by first | omega | (simp; done) | (simp; omega)) _)))
    | true =>
      rw [hc] at HIO
      have BS : Hid (∀ W, Below w.heap.size w W → Calls Try.prog 73 #[.slice (some ⟨bb, bo, none⟩) m d, .agg #[.int .i64 c1, .int .i64 c2, .int .i64 c3], .func (.func 74) #[] #[]] W
        fun e w' => (∃ (p : Nat) (f : Bool), e = .returned (.tuple #[.int .i64 (p : Int), .bool f]) ∧ p ≤ m ∧ Hid (BsP t.2.2 (c1, c2, c3) p f)) ∧ Below W.heap.size W w') := fun W hW => binSearch_any t.2.2 (c1, c2, c3) _ m d W hm hs2 (zon_pairs hzp) (HB.out W hW)
      have HEX : Hid (exB t.2.2 (c1, c2, c3) = true → addZ t (c1, c2, c3) = ((0, [], []), 4)) := addZ_ex hz hc
      have HFU : Hid (exB t.2.2 (c1, c2, c3) = false → 60 ≤ t.2.2.length → addZ t (c1, c2, c3) = ((0, [], []), 5)) := addZ_full hz hc
      have HOK : Hid (∀ p, insP t.2.2 (c1, c2, c3) p → ¬ 60 ≤ t.2.2.length → addZ t (c1, c2, c3) = ((t.1, t.2.1, t.2.2.take p ++ (c1, c2, c3) :: t.2.2.drop p), 0)) := fun p h3 h4 => addZ_ok hz hc h3 h4
      have hm60 : m ≤ 60 := by rw [← hm.out]; exact hzp.2.2.2.1
      have hn24 : n ≤ 24 := by rw [← hn.out]; exact hzp.2.2.1
      have HSO := Lib.hid (zon_pairs hzp)
      clear hz hc hzp
      go_enter Try.func28, Try.ntmps28
      go_wp2_with fail
      obtain ⟨wz, hwz⟩ : ∃ wz, (((w.alloc (.cells #[.int .i64 t.1, .slice (some ⟨ab, ao, none⟩) n ca, .slice (some ⟨bb, bo, none⟩) m d] 27)).alloc (.cells #[.int .i64 c1, .int .i64 c2, .int .i64 c3] 53)).alloc (.cells #[.int .i64 0, .slice none 0 0, .slice none 0 0] 27)) = wz := ⟨_, rfl⟩
      rw [hwz] at HF BL BZ ⊢
      clear hwz
      refine (CK.out _ BL.out).mono ?_
      rintro e w1 ⟨rfl, hb1⟩
      obtain ⟨⟨p0, p1, p2⟩, ⟨e0, e1, e2⟩, ⟨d0, d1, d2⟩, f0, f1, f2⟩ := HF.out _ hb1
      have HB1 : Hid (Below w.heap.size w w1) := BL.out.trans (hb1.mono BL.out.size)
      have HBZ : Hid (Below wz.heap.size wz w1) := hb1
      clear hb1
      go_wp2_with fail
      refine (HIO _).mono ?_
      rintro e w2 ⟨rfl, hb2⟩
      have HBZ2 : Hid (Below wz.heap.size wz w2) := HBZ.out.trans (hb2.mono HBZ.out.size)
      have HB2 : Hid (Below w.heap.size w w2) := BL.out.trans (HBZ2.out.mono BL.out.size)
      clear p0 p1 p2 e0 e1 e2 d0 d1 d2 f0 f1 f2 hb2
      obtain ⟨⟨p0, p1, p2⟩, ⟨e0, e1, e2⟩, ⟨d0, d1, d2⟩, f0, f1, f2⟩ := HF.out _ HBZ2.out
      go_wp2_with fail
      refine (BS.out _ HB2.out).mono ?_
      rintro e w3 ⟨⟨p, f, rfl, hp, HP⟩, hb3⟩
      have HBZ3 : Hid (Below wz.heap.size wz w3) := HBZ2.out.trans (hb3.mono HBZ2.out.size)
      have HB3 : Hid (Below w.heap.size w w3) := BL.out.trans (HBZ3.out.mono BL.out.size)
      clear p0 p1 p2 e0 e1 e2 d0 d1 d2 f0 f1 f2 hb3
      obtain ⟨⟨p0, p1, p2⟩, ⟨e0, e1, e2⟩, ⟨d0, d1, d2⟩, f0, f1, f2⟩ := HF.out _ HBZ3.out
      cases f with
      | true =>
        have HR : Hid (addZ t (c1, c2, c3) = ((0, [], []), 4)) := HEX.out (bs_found HP.out)
        go_wp2
        exact bodyPost_ret (v := .tuple #[.agg #[.int .i64 0, .slice none 0 0, .slice none 0 0], .int .i64 4]) (by simp [results, Try.results28, go_sem, d0, d1, d2]) rfl (givesAZ_nil HR.out (by repeat (first | exact HB3.out | refine Below.alloc ?_ (by first | omega | (simp; done) | (simp; omega)) _ | refine Below.setCell ?_ (by first | omega | (simp; done) | (simp; omega)) _)))
      | false =>
        have HIN : Hid (insP t.2.2 (c1, c2, c3) p) := bs_none HSO.out HP.out
        by_cases hfull : m = 60
        · have HR : Hid (addZ t (c1, c2, c3) = ((0, [], []), 5)) := HFU.out (exB_ins HIN.out) (by rw [hm.out]; omega)
          subst hfull
          go_wp2
          exact bodyPost_ret (v := .tuple #[.agg #[.int .i64 0, .slice none 0 0, .slice none 0 0], .int .i64 5]) (by simp [results, Try.results28, go_sem, d0, d1, d2]) rfl (givesAZ_nil HR.out (by repeat (first | exact HB3.out | refine Below.alloc ?_ (by first | omega | (simp; done) | (simp; omega)) _ | refine Below.setCell ?_ (by first | omega | (simp; done) | (simp; omega)) _)))
        · have HR : Hid (addZ t (c1, c2, c3) = ((t.1, t.2.1, t.2.2.take p ++ (c1, c2, c3) :: t.2.2.drop p), 0)) := HOK.out p HIN.out (by rw [hm.out]; omega)
          have hne : ((m : Int) == 60) = false := by simp; omega
          obtain ⟨ad, hrest, HRE⟩ := rest_run (k := p) hm.out hd hp (HB.out _ HB3.out)
          have hsl : ∀ W : World, (Instr.slice 25 (.slice (some ⟨bb, bo, none⟩) m d) none (some (.int .i64 (p : Int))) (some (.int .i64 (p : Int)))).run Try.prog W = .ok (.slice (some ⟨bb, bo, none⟩) p p) W := first_run hd hp
          have HTK : Hid (∀ W, Below w3.heap.size w3 W → ∀ j u, ((t.2.2.take p).flatMap cChange)[j]? = some u → W.cell? ((⟨bb, bo, none⟩ : Addr).add j) = some u) := fun W hW => (((HB.out _ HB3.out).takeC p).below hW).newsC
          have HTL : Hid (((t.2.2.take p).flatMap cChange).length = p * 3) := by unfold Hid; rw [recsC_len, List.length_take, hm.out]; congr 1; omega
          have HDL : Hid (((t.2.2.drop p).flatMap cChange).length = (m - p) * 3) := by unfold Hid; rw [recsC_len, List.length_drop, hm.out]
          have HI : Hid (∃ i0 : TypeInfo, Try.prog.info? 53 = some i0 ∧ i0.zero = some (.agg #[.int .i64 0, .int .i64 0, .int .i64 0]) ∧ i0.size = 3 ∧ i0.bytes = 24) := info_parts info53
          clear hfull BS HIO CK HEX HFU HOK HP
          go_wp2_with fail
          go_region_held3 (fun w' => w'.cell? ⟨w.heap.size, 2, none⟩ = some (.slice (some ⟨bb, bo, none⟩) m d) ∧ w'.cell? ⟨w.heap.size + 1, 0, none⟩ = some (.int .i64 c1) ∧ w'.cell? ⟨w.heap.size + 1, 1, none⟩ = some (.int .i64 c2) ∧ w'.cell? ⟨w.heap.size + 1, 2, none⟩ = some (.int .i64 c3)) (first | exact ⟨p2, e0, e1, e2⟩ | (have hq := HF.out (w3.alloc (.cells #[.int .i64 c1, .int .i64 c2, .int .i64 c3] 53)).drew (HBZ3.out.trans (Below.mono (B := w3.heap.size) (by (repeat (first | exact Below.refl _ _ | refine Below.drew ?_ | refine Below.drewN' ?_ _ | refine Below.alloc ?_ (by first | (simp; done) | (simp; omega)) _ | refine Below.setCell ?_ (by first | (simp; done) | (simp; omega)) _)); done) HBZ3.out.size)); exact ⟨hq.1.2.2, hq.2.1⟩) | (have hq := HF.out _ HBZ4.out; exact ⟨hq.1.2.2, hq.2.1⟩)) (first | ((with_reducible_and_instances show (if Region.wanted { dst := some 45, op := _, type := _, pos := _, after := _, guard := none } _ = true then _ else _)); refine step_append_full _ (by rfl) _ _ 25 (by rfl) 53 HI.out.choose (.agg #[.int .i64 0, .int .i64 0, .int .i64 0]) 3 24 Try.underlying25 HI.out.choose_spec.1 HI.out.choose_spec.2.1 HI.out.choose_spec.2.2.1 HI.out.choose_spec.2.2.2 rfl ⟨bb, bo, none⟩ p (by rfl) _ HTL.out (HTK.out _ (by (repeat (first | exact Below.refl _ _ | refine Below.drew ?_ | refine Below.drewN' ?_ _ | refine Below.alloc ?_ (by first | (simp; done) | (simp; omega)) _ | refine Below.setCell ?_ (by first | (simp; done) | (simp; omega)) _)); done)) (recsC_one _) ⟨w3.heap.size, 0, none⟩ 1 1 [.int .i64 c1, .int .i64 c2, .int .i64 c3] (by rfl) rfl (World.news_of_block (heap_alloc_new w3 _)) (by intro u hu; simp at hu; rcases hu with rfl | rfl | rfl <;> rfl) (by decide) (by unfold maxLen; omega) (by omega) (w3.heap.size + 1) (by simp) ?_; intro cap w4 hown4 hb4; have HBZ4 : Hid (Below wz.heap.size wz w4) := HBZ3.out.trans (Below.mono (Below.trans (b := (w3.alloc (.cells #[.int .i64 c1, .int .i64 c2, .int .i64 c3] 53)).drew) (B := w3.heap.size) (by (repeat (first | exact Below.refl _ _ | refine Below.drew ?_ | refine Below.drewN' ?_ _ | refine Below.alloc ?_ (by first | (simp; done) | (simp; omega)) _ | refine Below.setCell ?_ (by first | (simp; done) | (simp; omega)) _)); done) (hb4.mono (by simp))) HBZ3.out.size)))
          have B34 : Hid (Below w3.heap.size w3 w4) := Below.trans (b := (w3.alloc (.cells #[.int .i64 c1, .int .i64 c2, .int .i64 c3] 53)).drew) (B := w3.heap.size) (by (repeat (first | exact Below.refl _ _ | refine Below.drew ?_ | refine Below.drewN' ?_ _ | refine Below.alloc ?_ (by first | (simp; done) | (simp; omega)) _ | refine Below.setCell ?_ (by first | (simp; done) | (simp; omega)) _)); done) (hb4.mono (by simp))
          have HS4 : Hid (w3.heap.size + 1 ≤ w4.heap.size) := by
            have h9 := hb4.size
            unfold Hid
            simpa using h9
          have HB4 : Hid (Below w.heap.size w w4) := BL.out.trans (HBZ4.out.mono BL.out.size)
          have HZ3 : Hid (w.heap.size + 1 + 1 < w3.heap.size) := by have := HBZ3.out.size; rw [BZ.out] at this; exact this
          have HO4 := Lib.hid hown4
          clear p0 p1 p2 e0 e1 e2 d0 d1 d2 f0 f1 f2 hb4 hown4
          obtain ⟨⟨p0, p1, p2⟩, ⟨e0, e1, e2⟩, ⟨d0, d1, d2⟩, f0, f1, f2⟩ := HF.out _ HBZ4.out
          go_wp2_with (at_builtin; refine wpList_append_more _ rfl _ _ 25 rfl (w3.heap.size + 1) 53 HI.out.choose (.agg #[.int .i64 0, .int .i64 0, .int .i64 0]) 3 24 Try.underlying25 HI.out.choose_spec.1 HI.out.choose_spec.2.1 HI.out.choose_spec.2.2.1 HI.out.choose_spec.2.2.2 rfl (by decide) (.slice (some ⟨w3.heap.size + 1, 0, none⟩) (p + 1) cap) (p + 1) _ rfl HO4.out (by omega) ad (m - p) (d - p) _ rfl HDL.out (HRE.out _ B34.out) (recsC_one _) (by unfold maxLen; omega) (by omega) HS4.out ?_)
          intro g5 cap5 w5 hown5 hgrow5 hat5
          have HBZ5 : Hid (Below wz.heap.size wz w5) := HBZ4.out.grown hgrow5 HBZ4.out.size (fun k hk => by simp [Value.ownBlock] at hk; have := HBZ3.out.size; omega)
          have HB5 : Hid (Below w.heap.size w w5) := BL.out.trans (HBZ5.out.mono BL.out.size)
          have HO5 := Lib.hid hown5
          clear p0 p1 p2 e0 e1 e2 d0 d1 d2 f0 f1 f2 hgrow5 hat5 hown5
          obtain ⟨⟨p0, p1, p2⟩, ⟨e0, e1, e2⟩, ⟨d0, d1, d2⟩, f0, f1, f2⟩ := HF.out _ HBZ5.out
          have HZ5 : Hid (w.heap.size + 1 + 1 < w5.heap.size) := by have := HBZ5.out.size; rw [BZ.out] at this; exact this
          go_wp2_with fail
          clear d0 d1 d2 f0 f1 f2
          go_region_held3 (fun w' => w'.cell? ⟨w.heap.size, 0, none⟩ = some (.int .i64 t.1) ∧ w'.cell? ⟨w.heap.size, 1, none⟩ = some (.slice (some ⟨ab, ao, none⟩) n ca)) (first | exact ⟨p0, p1⟩ | exact ⟨q0, q1⟩ | (simp [go_sem, q0, q1]; done)) (first | (go_at_call 75; refine (copyI_any ab ao ca n t.2.1 _ hn (by omega) (HA.out _ (Below.drew HB5.out))).mono ?_; rintro e w6 ⟨g6, c6, rfl, hb6, ho6⟩; have HBZ6 : Hid (Below wz.heap.size wz w6) := (Below.drew HBZ5.out).trans (hb6.mono HBZ5.out.size); obtain ⟨⟨q0, q1, q2⟩, ⟨e0, e1, e2⟩, ⟨d0, d1, d2⟩, f0, f1, f2⟩ := HF.out _ HBZ6.out))
          all_goals
            have HB6 : Hid (Below w.heap.size w w6) := BL.out.trans (HBZ6.out.mono BL.out.size)
            have R0 := Row.of ho6
            have R2 : Row (w3.heap.size + 1) w5.heap.size 53 3 (.slice (some ⟨g5, 0, none⟩) (p + 1 + (m - p)) cap5) (p + 1 + (m - p)) _ w6 := (Row.of HO5.out).below ((Below.drew (Below.refl _ _)).trans hb6)
            have hg6 := (R0.2 g6 rfl).1
            have hg5 := (R2.2 g5 rfl).2
            have hc1 : (t.2.2.take p ++ (c1, c2, c3) :: t.2.2.drop p).length = p + 1 + (m - p) := by rw [List.length_append, List.length_cons, List.length_take, List.length_drop, hm.out]; omega
            have hc2 : (t.2.2.take p).flatMap cChange ++ Value.int .i64 c1 :: .int .i64 c2 :: .int .i64 c3 :: (t.2.2.drop p).flatMap cChange = (t.2.2.take p ++ (c1, c2, c3) :: t.2.2.drop p).flatMap cChange := by simp [cChange]
            rw [hc2] at R2
            have hx := HZ3.out
            have hy := HZ5.out
            have R3 := (row_setCell (row_setCell (row_setCell R2 (b := w.heap.size + 1 + 1) (o := 0) (by omega) (.int .i64 t.1)) (b := w.heap.size + 1 + 1) (o := 1) (by omega) (.slice (some ⟨g6, 0, none⟩) n c6)) (b := w.heap.size + 1 + 1) (o := 2) (by omega) (.slice (some ⟨g5, 0, none⟩) (p + 1 + (m - p)) cap5)).widen (lo' := w.heap.size) (by omega) (Nat.le_refl _)
            have R4 := (row_setCell (row_setCell (row_setCell R0 (b := w.heap.size + 1 + 1) (o := 0) hy (.int .i64 t.1)) (b := w.heap.size + 1 + 1) (o := 1) hy (.slice (some ⟨g6, 0, none⟩) n c6)) (b := w.heap.size + 1 + 1) (o := 2) hy (.slice (some ⟨g5, 0, none⟩) (p + 1 + (m - p)) cap5)).widen (lo' := w.heap.size) (by show w.heap.size ≤ w5.heap.size; omega) (Nat.le_refl _)
            go_wp2
            exact bodyPost_ret (v := .tuple #[.agg #[.int .i64 t.1, .slice (some ⟨g6, 0, none⟩) n c6, .slice (some ⟨g5, 0, none⟩) (p + 1 + (m - p)) cap5], .int .i64 0]) (by simp [results, Try.results28, go_sem, d0, d1, d2]) rfl (givesAZ_of (t := (t.1, t.2.1, t.2.2.take p ++ (c1, c2, c3) :: t.2.2.drop p)) HR.out (by repeat (first | exact HB6.out | refine Below.alloc ?_ (by first | omega | (simp; done) | (simp; omega)) _ | refine Below.setCell ?_ (by first | omega | (simp; done) | (simp; omega)) _)) hn.out hc1 R4.1 R3.1 (by have h8 : w5.heap.size ≤ g6 := hg6; omega))
end Go.Proofs.Ytghpefdleiebmaa
