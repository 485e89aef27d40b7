/-
  The model's AddChange.
-/
import Derived.Test.YtghpefdleiebmaaZAddOwn
namespace Go.Proofs.Ytghpefdleiebmaa
open Go.RowKit
theorem row_setCell_hi {lo hi : Nat} {e : TypeId} {size n : Nat} {v : Value} {xs : List Value} {w : World} (h : Row lo hi e size v n xs w) {b o : Nat} (hb : hi ≤ b) (u : Value) : Row lo hi e size v n xs (w.setCell ⟨b, o, none⟩ u) :=
  ⟨ownsRow_setCell_other h.1 (by intro hk; have := h.2 _ hk; dsimp only at this; omega) u, h.2⟩
theorem head_run {b off m d k : Nat} (hd : m ≤ d) (hk : k ≤ m) (W : World) : (Instr.slice 25 (.slice (some ⟨b, off, none⟩) m d) none (some (.int .i64 (k : Int))) none).run Try.prog W = .ok (.slice (some ⟨b, off, none⟩) k d) W := by
  have hu : Try.prog.underlying 25 = some (.slice (Try.prog.elem 25)) := by kernel_rfl
  have hz : ∀ W : World, (sizeOf (Try.prog.elem 25)).run Try.prog W = .ok 3 W := fun W => by kernel_rfl
  have h := Go.run_slice_h (P := Try.prog) W 25 (some ⟨b, off, none⟩) m d hu .i64 (k : Int) (by omega) (by omega)
  rw [hz, Result.andThen] at h
  rw [h, sliced]
  by_cases e : d = 0 <;> simp [e, Addr.add_lit]
def NoK (cs : List C3) (c : C3) (i : Nat) : Prop := ∀ j (h : j < cs.length), j < i → sameK cs[j] c = false
def GtK (cs : List C3) (c : C3) (k : Nat) : Prop := ∀ j (h : j < cs.length), k ≤ j → ltC c cs[j]
set_option maxRecDepth 20000 in
set_option maxHeartbeats 8000000 in
theorem specAddChange_any (w : World) {ab ao n ca bb bo m d : Nat} (t : TZoned) (hn : Hid (t.2.1.length = n)) (ha : RI w (some ⟨ab, ao, none⟩) t.2.1) (hs : n ≤ 1048576) (hm : Hid (t.2.2.length = m)) (hb : RR 3 cChange w (some ⟨bb, bo, none⟩) t.2.2) (hs2 : m ≤ 1048576) (hd : m ≤ d) (_wf : Hid (wfZoned t)) (c : C3) :
    Calls Try.prog 25 #[.agg #[.int .i64 t.1, .slice (some ⟨ab, ao, none⟩) n ca, .slice (some ⟨bb, bo, none⟩) m d], .agg #[.int .i64 c.1, .int .i64 c.2.1, .int .i64 c.2.2]] w (GivesAZ (addZ t c) w) := by
  have HA : Hid (∀ w', Below w.heap.size w w' → RI w' (some ⟨ab, ao, none⟩) t.2.1) := fun w' h => ha.below h
  have HB : Hid (∀ w', Below w.heap.size w w' → RR 3 cChange w' (some ⟨bb, bo, none⟩) t.2.2) := fun w' h => hb.below h
  have CK : Hid (∀ W, Below w.heap.size w W → W.cell? ⟨w.heap.size, 0, none⟩ = some (.int .i64 t.1) → W.cell? ⟨w.heap.size, 1, none⟩ = some (.slice (some ⟨ab, ao, none⟩) n ca) → W.cell? ⟨w.heap.size, 2, none⟩ = some (.slice (some ⟨bb, bo, none⟩) m d) →
      Calls Try.prog 67 #[.pointer (some ⟨w.heap.size, 0, none⟩)] W fun e w' => e = .returned (.bool (zonB t)) ∧ Below W.heap.size W w') := fun W hW p0 p1 p2 => l09Ok_any w.heap.size t _ _ n ca m d W hn (HA.out W hW) hs hm (HB.out W hW) hs2 p0 p1 p2
  have OW : Hid (∀ W, Below w.heap.size w W → W.cell? ⟨w.heap.size, 0, none⟩ = some (.int .i64 t.1) → W.cell? ⟨w.heap.size, 1, none⟩ = some (.slice (some ⟨ab, ao, none⟩) n ca) → W.cell? ⟨w.heap.size, 2, none⟩ = some (.slice (some ⟨bb, bo, none⟩) m d) →
      Calls Try.prog 69 #[.pointer (some ⟨w.heap.size, 0, none⟩)] W fun e w' => (∃ g c g2 c2, e = .returned (.agg #[.int .i64 t.1, .slice (some ⟨g, 0, none⟩) n c, .slice (some ⟨g2, 0, none⟩) m c2]) ∧ Hid (Row W.heap.size w'.heap.size 2 1 (.slice (some ⟨g, 0, none⟩) n c) n (t.2.1.map (Value.int .i64)) w')) ∧ Below W.heap.size W w') := fun W hW p0 p1 p2 => l09Own_any w.heap.size W t hn (HA.out W hW) hs hm (HB.out W hW) hs2 p0 p1 p2
  clear ha hb
  obtain ⟨c1, c2, c3⟩ := c
  have HF : Hid (∀ W, Below (((w.alloc (.cells #[.int .i64 t.1, .slice (some ⟨ab, ao, none⟩) n ca, .slice (some ⟨bb, bo, none⟩) m d] 27)).alloc (.cells #[.int .i64 c1, .int .i64 c2, .int .i64 c3] 53)).alloc (.cells #[.int .i64 0, .slice none 0 0, .slice none 0 0] 27)).heap.size (((w.alloc (.cells #[.int .i64 t.1, .slice (some ⟨ab, ao, none⟩) n ca, .slice (some ⟨bb, bo, none⟩) m d] 27)).alloc (.cells #[.int .i64 c1, .int .i64 c2, .int .i64 c3] 53)).alloc (.cells #[.int .i64 0, .slice none 0 0, .slice none 0 0] 27)) W →
      (W.cell? ⟨w.heap.size, 0, none⟩ = some (.int .i64 t.1) ∧ W.cell? ⟨w.heap.size, 1, none⟩ = some (.slice (some ⟨ab, ao, none⟩) n ca) ∧ W.cell? ⟨w.heap.size, 2, none⟩ = some (.slice (some ⟨bb, bo, none⟩) m d)) ∧
      (W.cell? ⟨w.heap.size + 1, 0, none⟩ = some (.int .i64 c1) ∧ W.cell? ⟨w.heap.size + 1, 1, none⟩ = some (.int .i64 c2) ∧ W.cell? ⟨w.heap.size + 1, 2, none⟩ = some (.int .i64 c3)) ∧
      (W.cell? ⟨w.heap.size + 1 + 1, 0, none⟩ = some (.int .i64 0) ∧ W.cell? ⟨w.heap.size + 1 + 1, 1, none⟩ = some (.slice none 0 0) ∧ W.cell? ⟨w.heap.size + 1 + 1, 2, none⟩ = some (.slice none 0 0)) ∧
      (W.frozen? ⟨w.heap.size + 1 + 1, 0, none⟩ = false ∧ W.frozen? ⟨w.heap.size + 1 + 1, 1, none⟩ = false ∧ W.frozen? ⟨w.heap.size + 1 + 1, 2, none⟩ = false)) := fun W hW => by
    refine ⟨⟨keepS hW ?_, keepS hW ?_, keepS hW ?_⟩, ⟨keepS hW ?_, keepS hW ?_, keepS hW ?_⟩, ⟨keepS hW ?_, keepS hW ?_, keepS hW ?_⟩, keepF hW ?_ ?_, keepF hW ?_ ?_, keepF hW ?_ ?_⟩ <;> simp [go_sem]
  have BL : Hid (Below w.heap.size w (((w.alloc (.cells #[.int .i64 t.1, .slice (some ⟨ab, ao, none⟩) n ca, .slice (some ⟨bb, bo, none⟩) m d] 27)).alloc (.cells #[.int .i64 c1, .int .i64 c2, .int .i64 c3] 53)).alloc (.cells #[.int .i64 0, .slice none 0 0, .slice none 0 0] 27))) := (by repeat (first | exact Below.refl _ _ | refine Below.alloc ?_ (by simp; try omega) _ | refine Below.setCell ?_ (by simp; try omega) _))
  have BZ : Hid ((((w.alloc (.cells #[.int .i64 t.1, .slice (some ⟨ab, ao, none⟩) n ca, .slice (some ⟨bb, bo, none⟩) m d] 27)).alloc (.cells #[.int .i64 c1, .int .i64 c2, .int .i64 c3] 53)).alloc (.cells #[.int .i64 0, .slice none 0 0, .slice none 0 0] 27)).heap.size = w.heap.size + 1 + 1 + 1) := by unfold Hid; simp
  cases hz : zonB t with
  | false =>
    have HR := Lib.hid (addZ_bad (c := (c1, c2, c3)) hz)
    rw [hz] at CK
    clear hz
    go_enter Try.func25, Try.ntmps25
    go_wp2_with fail
    obtain ⟨wz, hwz⟩ : ∃ wz, (((w.alloc (.cells #[.int .i64 t.1, .slice (some ⟨ab, ao, none⟩) n ca, .slice (some ⟨bb, bo, none⟩) m d] 27)).alloc (.cells #[.int .i64 c1, .int .i64 c2, .int .i64 c3] 53)).alloc (.cells #[.int .i64 0, .slice none 0 0, .slice none 0 0] 27)) = wz := ⟨_, rfl⟩
    rw [hwz] at HF BL BZ ⊢
    clear hwz
    obtain ⟨⟨p0, p1, p2⟩, ⟨e0, e1, e2⟩, ⟨d0, d1, d2⟩, f0, f1, f2⟩ := HF.out wz (Below.refl _ _)
    refine (CK.out wz BL.out p0 p1 p2).mono ?_
    clear p0 p1 p2 e0 e1 e2 d0 d1 d2 f0 f1 f2
    rintro e w1 ⟨rfl, hb1⟩
    obtain ⟨⟨p0, p1, p2⟩, ⟨e0, e1, e2⟩, ⟨d0, d1, d2⟩, f0, f1, f2⟩ := HF.out _ hb1
    have HB1 : Hid (Below w.heap.size w w1) := BL.out.trans (hb1.mono BL.out.size)
    have HBZ : Hid (Below wz.heap.size wz w1) := hb1
    clear hb1
    go_wp2
    exact bodyPost_ret (v := .tuple #[.agg #[.int .i64 0, .slice none 0 0, .slice none 0 0], .int .i64 1]) (by simp [results, Try.results25, go_sem, d0, d1, d2]) rfl (givesAZ_nil HR.out (by repeat (first | exact HB1.out | refine Below.alloc ?_ (by first | omega | (simp; done) | (simp; omega)) _ | refine Below.setCell ?_ (by first | omega | (simp; done) | (simp; omega)) _)))
  | true =>
    have hzp := zonB_of hz
    rw [hz] at CK
    have HIO := fun (W : World) h0 h1 h2 => l09Change_any (c1, c2, c3) t.1 (w.heap.size + 1) 0 W (by have := hzp.1; have := hzp.2.1; omega) h0 h1 h2
    dsimp only at HIO
    cases hc : chB t.1 (c1, c2, c3) with
    | false =>
      have HR := Lib.hid (addZ_range hz hc)
      rw [hc] at HIO
      clear hz hc hzp
      go_enter Try.func25, Try.ntmps25
      go_wp2_with fail
      obtain ⟨wz, hwz⟩ : ∃ wz, (((w.alloc (.cells #[.int .i64 t.1, .slice (some ⟨ab, ao, none⟩) n ca, .slice (some ⟨bb, bo, none⟩) m d] 27)).alloc (.cells #[.int .i64 c1, .int .i64 c2, .int .i64 c3] 53)).alloc (.cells #[.int .i64 0, .slice none 0 0, .slice none 0 0] 27)) = wz := ⟨_, rfl⟩
      rw [hwz] at HF BL BZ ⊢
      clear hwz
      obtain ⟨⟨p0, p1, p2⟩, ⟨e0, e1, e2⟩, ⟨d0, d1, d2⟩, f0, f1, f2⟩ := HF.out wz (Below.refl _ _)
      refine (CK.out wz BL.out p0 p1 p2).mono ?_
      clear p0 p1 p2 e0 e1 e2 d0 d1 d2 f0 f1 f2
      rintro e w1 ⟨rfl, hb1⟩
      obtain ⟨⟨p0, p1, p2⟩, ⟨e0, e1, e2⟩, ⟨d0, d1, d2⟩, f0, f1, f2⟩ := HF.out _ hb1
      have HB1 : Hid (Below w.heap.size w w1) := BL.out.trans (hb1.mono BL.out.size)
      have HBZ : Hid (Below wz.heap.size wz w1) := hb1
      clear hb1
      go_wp2_with fail
      refine (HIO w1 e0 e1 e2).mono ?_
      rintro e w2 ⟨rfl, rfl⟩
      go_wp2
      exact bodyPost_ret (v := .tuple #[.agg #[.int .i64 0, .slice none 0 0, .slice none 0 0], .int .i64 2]) (by simp [results, Try.results25, go_sem, d0, d1, d2]) rfl (givesAZ_nil HR.out (by repeat (first | exact HB1.out | refine Below.alloc ?_ (by first | omega | (simp; done) | (simp; omega)) _ | refine Below.setCell ?_ (by first | omega | (simp; done) | (simp; omega)) _)))
    | true =>
      rw [hc] at HIO
      have HEX : Hid (exB t.2.2 (c1, c2, c3) = true → addZ t (c1, c2, c3) = ((0, [], []), 4)) := addZ_ex hz hc
      have HFU : Hid (exB t.2.2 (c1, c2, c3) = false → 60 ≤ t.2.2.length → addZ t (c1, c2, c3) = ((0, [], []), 5)) := addZ_full hz hc
      have HOK : Hid (∀ p, insP t.2.2 (c1, c2, c3) p → ¬ 60 ≤ t.2.2.length → addZ t (c1, c2, c3) = ((t.1, t.2.1, t.2.2.take p ++ (c1, c2, c3) :: t.2.2.drop p), 0)) := fun p h3 h4 => addZ_ok hz hc h3 h4
      have hm60 : m ≤ 60 := by rw [← hm.out]; exact hzp.2.2.2.1
      have hn24 : n ≤ 24 := by rw [← hn.out]; exact hzp.2.2.1
      have HSO := Lib.hid (zon_pairs hzp)
      clear hz hc hzp
      go_enter Try.func25, Try.ntmps25
      go_wp2_with fail
      obtain ⟨wz, hwz⟩ : ∃ wz, (((w.alloc (.cells #[.int .i64 t.1, .slice (some ⟨ab, ao, none⟩) n ca, .slice (some ⟨bb, bo, none⟩) m d] 27)).alloc (.cells #[.int .i64 c1, .int .i64 c2, .int .i64 c3] 53)).alloc (.cells #[.int .i64 0, .slice none 0 0, .slice none 0 0] 27)) = wz := ⟨_, rfl⟩
      rw [hwz] at HF BL BZ ⊢
      clear hwz
      obtain ⟨⟨p0, p1, p2⟩, ⟨e0, e1, e2⟩, ⟨d0, d1, d2⟩, f0, f1, f2⟩ := HF.out wz (Below.refl _ _)
      refine (CK.out wz BL.out p0 p1 p2).mono ?_
      clear p0 p1 p2 e0 e1 e2 d0 d1 d2 f0 f1 f2
      rintro e w1 ⟨rfl, hb1⟩
      obtain ⟨⟨p0, p1, p2⟩, ⟨e0, e1, e2⟩, ⟨d0, d1, d2⟩, f0, f1, f2⟩ := HF.out _ hb1
      have HB1 : Hid (Below w.heap.size w w1) := BL.out.trans (hb1.mono BL.out.size)
      have HBZ : Hid (Below wz.heap.size wz w1) := hb1
      clear hb1
      go_wp2_with fail
      refine (HIO w1 e0 e1 e2).mono ?_
      rintro e w2 ⟨rfl, rfl⟩
      clear HIO CK
      go_wp2
      clear p0 p1 p2 e0 e1 e2 d0 d1 d2 f0 f1 f2
      go_loopw [6] (fun iv wr => ∃ i : Nat, i ≤ m ∧ iv = .int .i64 i ∧ Hid (Below wz.heap.size wz wr) ∧ Hid (NoK t.2.2 (c1, c2, c3) i)) (fun iv _ => m - (intOf iv).toNat)
      case atStart => exact ⟨0, by omega, rfl, HBZ, fun j _ hj => by omega⟩
      case round =>
        obtain ⟨i, hi, rfl, HBR, HNO⟩ := hrel
        obtain ⟨⟨p0, p1, p2⟩, ⟨e0, e1, e2⟩, ⟨d0, d1, d2⟩, f0, f1, f2⟩ := HF.out _ HBR.out
        have HBW : Hid (Below w.heap.size w wr) := BL.out.trans (HBR.out.mono BL.out.size)
        by_cases hlt : i < m
        · have hia : i < t.2.2.length := by rw [hm.out]; exact hlt
          have hcs := (HB.out _ HBW.out).cells_ i hia
          have x0 := hcs 0 _ rfl
          have x1 := hcs 1 _ rfl
          simp only [Nat.add_zero] at x0
          clear hcs
          have HHIT : Hid (sameK t.2.2[i] (c1, c2, c3) = true → addZ t (c1, c2, c3) = ((0, [], []), 4)) := fun h => HEX.out (exB_at i hia h)
          have HMISS : Hid (sameK t.2.2[i] (c1, c2, c3) = false → NoK t.2.2 (c1, c2, c3) (i + 1)) := fun h j h1 h2 => by
            by_cases e : j = i
            · subst e; exact h
            · exact HNO.out j h1 (by omega)
          generalize t.2.2[i] = u at x0 x1 HHIT HMISS
          obtain ⟨u1, u2, u3⟩ := u
          dsimp only at x0 x1
          have hk0 : (0 : Int) ≤ (i : Int) := by omega
          have hk1 : (i : Int) < (m : Int) := by omega
          have h4 : ((u1 == c1) = false ∧ sameK (u1, u2, u3) (c1, c2, c3) = false) ∨ ((u1 == c1) = true ∧ (u2 == c2) = false ∧ sameK (u1, u2, u3) (c1, c2, c3) = false) ∨ ((u1 == c1) = true ∧ (u2 == c2) = true ∧ sameK (u1, u2, u3) (c1, c2, c3) = true) := by
            unfold sameK
            cases u1 == c1 <;> cases u2 == c2 <;> simp
          rcases h4 with ⟨k1, k2⟩ | ⟨k1, k2, k3⟩ | ⟨k1, k2, k3⟩
          · have HN := Lib.hid (HMISS.out k2)
            clear HHIT HMISS k2
            go_wp2
            refine wp_region_held_drew (S := (fun w' => Hid (Below wz.heap.size wz w') ∧ w'.cell? ⟨w.heap.size, 2, none⟩ = some (.slice (some ⟨bb, bo, none⟩) m d) ∧ w'.cell? ⟨w.heap.size + 1, 0, none⟩ = some (.int .i64 c1) ∧ w'.cell? ⟨w.heap.size + 1, 1, none⟩ = some (.int .i64 c2) ∧ w'.cell? ⟨bb, bo + i * 3, none⟩ = some (.int .i64 u1) ∧ w'.cell? ⟨bb, bo + i * 3 + 1, none⟩ = some (.int .i64 u2))) (by kernel_rfl) ?_ (fun hHeld => ?_)
            · (try dsimp only); exact ⟨Lib.hid (Below.drew (by repeat (first | exact HBR.out | refine Below.alloc ?_ (by first | omega | (simp; done) | (simp; omega)) _ | refine Below.setCell ?_ (by first | omega | (simp; done) | (simp; omega)) _))), p2, e0, e1, x0, x1⟩
            refine takeL (i := 0) (v := ?_) rfl (by kernel_rfl) (by kernel_rfl) (by kernel_rfl) (fun _ _ _ h => h) (Or.inl ⟨by rfl, ?_⟩) hHeld ?_
            rotate_left
            · intro w hSw; (try dsimp only at hSw); go_simp; (try with_reducible rfl)
            (try simp only [Act.put, List.setIfInBounds_toArray, List.set_cons_zero, List.set_cons_succ])
            refine takeL (i := 1) (v := ?_) rfl (by kernel_rfl) (by kernel_rfl) (by kernel_rfl) (fun _ _ _ h => h) (Or.inl ⟨by rfl, ?_⟩) hHeld ?_
            rotate_left
            · intro w hSw; (try dsimp only at hSw); go_simp; (try with_reducible rfl)
            (try simp only [Act.put, List.setIfInBounds_toArray, List.set_cons_zero, List.set_cons_succ])
            refine takeL (i := 2) (v := ?_) rfl (by kernel_rfl) (by kernel_rfl) (by kernel_rfl) (fun _ _ _ h => h) (Or.inl ⟨by rfl, ?_⟩) hHeld ?_
            rotate_left
            · intro w hSw; (try dsimp only at hSw); go_simp; (try with_reducible rfl)
            (try simp only [Act.put, List.setIfInBounds_toArray, List.set_cons_zero, List.set_cons_succ])
            refine takeL (i := 3) (v := ?_) rfl (by kernel_rfl) (by kernel_rfl) (by kernel_rfl) (fun _ _ _ h => h) (Or.inl ⟨by rfl, ?_⟩) hHeld ?_
            rotate_left
            · intro w hSw; (try dsimp only at hSw); go_simp; (try with_reducible rfl)
            (try simp only [Act.put, List.setIfInBounds_toArray, List.set_cons_zero, List.set_cons_succ])
            refine takeL (i := 4) (v := ?_) rfl (by kernel_rfl) (by kernel_rfl) (by kernel_rfl) (fun _ _ _ h => h) (Or.inl ⟨by rfl, ?_⟩) hHeld ?_
            rotate_left
            · intro w hSw; (try dsimp only at hSw); go_simp; (try with_reducible rfl)
            (try simp only [Act.put, List.setIfInBounds_toArray, List.set_cons_zero, List.set_cons_succ])
            refine takeL (i := 5) (v := ?_) rfl (by kernel_rfl) (by kernel_rfl) (by kernel_rfl) (fun _ _ _ h => h) (Or.inl ⟨by rfl, ?_⟩) hHeld ?_
            rotate_left
            · intro w hSw; (try dsimp only at hSw); go_simp; (try with_reducible rfl)
            (try simp only [Act.put, List.setIfInBounds_toArray, List.set_cons_zero, List.set_cons_succ])
            refine takeL (i := 6) (v := ?_) rfl (by kernel_rfl) (by kernel_rfl) (by kernel_rfl) (fun _ _ _ h => h) (Or.inl ⟨by rfl, ?_⟩) hHeld ?_
            rotate_left
            · intro w hSw; (try dsimp only at hSw); go_simp; (try with_reducible rfl)
            (try simp only [Act.put, List.setIfInBounds_toArray, List.set_cons_zero, List.set_cons_succ])
            refine takeL (i := 7) (v := ?_) rfl (by kernel_rfl) (by kernel_rfl) (by kernel_rfl) (fun _ _ _ h => h) (Or.inl ⟨by rfl, ?_⟩) hHeld ?_
            rotate_left
            · intro w hSw; (try dsimp only at hSw); go_simp; (try with_reducible rfl)
            (try simp only [Act.put, List.setIfInBounds_toArray, List.set_cons_zero, List.set_cons_succ])
            refine takeL (i := 8) (v := ?_) rfl (by kernel_rfl) (by kernel_rfl) (by kernel_rfl) (fun _ _ _ h => h) (Or.inl ⟨by rfl, ?_⟩) hHeld ?_
            rotate_left
            · intro w hSw; (try dsimp only at hSw); go_simp; (try with_reducible rfl)
            (try simp only [Act.put, List.setIfInBounds_toArray, List.set_cons_zero, List.set_cons_succ])
            refine takeL (i := 9) (v := ?_) rfl (by kernel_rfl) (by kernel_rfl) (by kernel_rfl) (fun _ _ _ h => h) (Or.inl ⟨by rfl, ?_⟩) hHeld ?_
            rotate_left
            · intro w hSw; (try dsimp only at hSw); go_simp; (try with_reducible rfl)
            (try simp only [Act.put, List.setIfInBounds_toArray, List.set_cons_zero, List.set_cons_succ])
            refine takeL (i := 10) (v := undef) rfl (by kernel_rfl) (by kernel_rfl) (by kernel_rfl) (fun _ _ _ h => h) (Or.inr ⟨by rfl, rfl⟩) hHeld ?_
            (try simp only [Act.put, List.setIfInBounds_toArray, List.set_cons_zero, List.set_cons_succ])
            refine takeL (i := 11) (v := undef) rfl (by kernel_rfl) (by kernel_rfl) (by kernel_rfl) (fun _ _ _ h => h) (Or.inr ⟨by rfl, rfl⟩) hHeld ?_
            (try simp only [Act.put, List.setIfInBounds_toArray, List.set_cons_zero, List.set_cons_succ])
            refine takeL (i := 12) (v := undef) rfl (by kernel_rfl) (by kernel_rfl) (by kernel_rfl) (fun _ _ _ h => h) (Or.inr ⟨by rfl, rfl⟩) hHeld ?_
            (try simp only [Act.put, List.setIfInBounds_toArray, List.set_cons_zero, List.set_cons_succ])
            refine takeL (i := 13) (v := undef) rfl (by kernel_rfl) (by kernel_rfl) (by kernel_rfl) (fun _ _ _ h => h) (Or.inr ⟨by rfl, rfl⟩) hHeld ?_
            (try simp only [Act.put, List.setIfInBounds_toArray, List.set_cons_zero, List.set_cons_succ])
            refine takeL (i := 14) (v := undef) rfl (by kernel_rfl) (by kernel_rfl) (by kernel_rfl) (fun _ _ _ h => h) (Or.inr ⟨by rfl, rfl⟩) hHeld ?_
            (try simp only [Act.put, List.setIfInBounds_toArray, List.set_cons_zero, List.set_cons_succ])
            refine takeL (i := 15) (v := undef) rfl (by kernel_rfl) (by kernel_rfl) (by kernel_rfl) (fun _ _ _ h => h) (Or.inr ⟨by rfl, rfl⟩) hHeld ?_
            (try simp only [Act.put, List.setIfInBounds_toArray, List.set_cons_zero, List.set_cons_succ])
            refine takeL (i := 16) (v := undef) rfl (by kernel_rfl) (by kernel_rfl) (by kernel_rfl) (fun _ _ _ h => h) (Or.inr ⟨by rfl, rfl⟩) hHeld ?_
            (try simp only [Act.put, List.setIfInBounds_toArray, List.set_cons_zero, List.set_cons_succ])
            refine takeL (i := 17) (v := undef) rfl (by kernel_rfl) (by kernel_rfl) (by kernel_rfl) (fun _ _ _ h => h) (Or.inr ⟨by rfl, rfl⟩) hHeld ?_
            (try simp only [Act.put, List.setIfInBounds_toArray, List.set_cons_zero, List.set_cons_succ])
            refine takeL (i := 18) (v := undef) rfl (by kernel_rfl) (by kernel_rfl) (by kernel_rfl) (fun _ _ _ h => h) (Or.inr ⟨by rfl, rfl⟩) hHeld ?_
            (try simp only [Act.put, List.setIfInBounds_toArray, List.set_cons_zero, List.set_cons_succ])
            refine takeL (i := 19) (v := ?_) rfl (by kernel_rfl) (by kernel_rfl) (by kernel_rfl) (fun _ _ _ h => h) (Or.inl ⟨by rfl, ?_⟩) hHeld ?_
            rotate_left
            · intro w hSw; (try dsimp only at hSw); go_simp; (try with_reducible rfl)
            (try simp only [Act.put, List.setIfInBounds_toArray, List.set_cons_zero, List.set_cons_succ])
            refine wpAnyH_done (by kernel_rfl) ?_ _
            go_wp2
            go_roundw
            case rel => exact ⟨i + 1, by omega, by go_num, hHeld.1, HN⟩
            case measure => simp [intOf]; omega
          · have HN := Lib.hid (HMISS.out k3)
            clear HHIT HMISS k3
            go_wp2
            refine wp_region_held_drew (S := (fun w' => Hid (Below wz.heap.size wz w') ∧ w'.cell? ⟨w.heap.size, 2, none⟩ = some (.slice (some ⟨bb, bo, none⟩) m d) ∧ w'.cell? ⟨w.heap.size + 1, 0, none⟩ = some (.int .i64 c1) ∧ w'.cell? ⟨w.heap.size + 1, 1, none⟩ = some (.int .i64 c2) ∧ w'.cell? ⟨bb, bo + i * 3, none⟩ = some (.int .i64 u1) ∧ w'.cell? ⟨bb, bo + i * 3 + 1, none⟩ = some (.int .i64 u2))) (by kernel_rfl) ?_ (fun hHeld => ?_)
            · (try dsimp only); exact ⟨Lib.hid (Below.drew (by repeat (first | exact HBR.out | refine Below.alloc ?_ (by first | omega | (simp; done) | (simp; omega)) _ | refine Below.setCell ?_ (by first | omega | (simp; done) | (simp; omega)) _))), p2, e0, e1, x0, x1⟩
            refine takeL (i := 0) (v := ?_) rfl (by kernel_rfl) (by kernel_rfl) (by kernel_rfl) (fun _ _ _ h => h) (Or.inl ⟨by rfl, ?_⟩) hHeld ?_
            rotate_left
            · intro w hSw; (try dsimp only at hSw); go_simp; (try with_reducible rfl)
            (try simp only [Act.put, List.setIfInBounds_toArray, List.set_cons_zero, List.set_cons_succ])
            refine takeL (i := 1) (v := ?_) rfl (by kernel_rfl) (by kernel_rfl) (by kernel_rfl) (fun _ _ _ h => h) (Or.inl ⟨by rfl, ?_⟩) hHeld ?_
            rotate_left
            · intro w hSw; (try dsimp only at hSw); go_simp; (try with_reducible rfl)
            (try simp only [Act.put, List.setIfInBounds_toArray, List.set_cons_zero, List.set_cons_succ])
            refine takeL (i := 2) (v := ?_) rfl (by kernel_rfl) (by kernel_rfl) (by kernel_rfl) (fun _ _ _ h => h) (Or.inl ⟨by rfl, ?_⟩) hHeld ?_
            rotate_left
            · intro w hSw; (try dsimp only at hSw); go_simp; (try with_reducible rfl)
            (try simp only [Act.put, List.setIfInBounds_toArray, List.set_cons_zero, List.set_cons_succ])
            refine takeL (i := 3) (v := ?_) rfl (by kernel_rfl) (by kernel_rfl) (by kernel_rfl) (fun _ _ _ h => h) (Or.inl ⟨by rfl, ?_⟩) hHeld ?_
            rotate_left
            · intro w hSw; (try dsimp only at hSw); go_simp; (try with_reducible rfl)
            (try simp only [Act.put, List.setIfInBounds_toArray, List.set_cons_zero, List.set_cons_succ])
            refine takeL (i := 4) (v := ?_) rfl (by kernel_rfl) (by kernel_rfl) (by kernel_rfl) (fun _ _ _ h => h) (Or.inl ⟨by rfl, ?_⟩) hHeld ?_
            rotate_left
            · intro w hSw; (try dsimp only at hSw); go_simp; (try with_reducible rfl)
            (try simp only [Act.put, List.setIfInBounds_toArray, List.set_cons_zero, List.set_cons_succ])
            refine takeL (i := 5) (v := ?_) rfl (by kernel_rfl) (by kernel_rfl) (by kernel_rfl) (fun _ _ _ h => h) (Or.inl ⟨by rfl, ?_⟩) hHeld ?_
            rotate_left
            · intro w hSw; (try dsimp only at hSw); go_simp; (try with_reducible rfl)
            (try simp only [Act.put, List.setIfInBounds_toArray, List.set_cons_zero, List.set_cons_succ])
            refine takeL (i := 6) (v := ?_) rfl (by kernel_rfl) (by kernel_rfl) (by kernel_rfl) (fun _ _ _ h => h) (Or.inl ⟨by rfl, ?_⟩) hHeld ?_
            rotate_left
            · intro w hSw; (try dsimp only at hSw); go_simp; (try with_reducible rfl)
            (try simp only [Act.put, List.setIfInBounds_toArray, List.set_cons_zero, List.set_cons_succ])
            refine takeL (i := 7) (v := ?_) rfl (by kernel_rfl) (by kernel_rfl) (by kernel_rfl) (fun _ _ _ h => h) (Or.inl ⟨by rfl, ?_⟩) hHeld ?_
            rotate_left
            · intro w hSw; (try dsimp only at hSw); go_simp; (try with_reducible rfl)
            (try simp only [Act.put, List.setIfInBounds_toArray, List.set_cons_zero, List.set_cons_succ])
            refine takeL (i := 8) (v := ?_) rfl (by kernel_rfl) (by kernel_rfl) (by kernel_rfl) (fun _ _ _ h => h) (Or.inl ⟨by rfl, ?_⟩) hHeld ?_
            rotate_left
            · intro w hSw; (try dsimp only at hSw); go_simp; (try with_reducible rfl)
            (try simp only [Act.put, List.setIfInBounds_toArray, List.set_cons_zero, List.set_cons_succ])
            refine takeL (i := 9) (v := ?_) rfl (by kernel_rfl) (by kernel_rfl) (by kernel_rfl) (fun _ _ _ h => h) (Or.inl ⟨by rfl, ?_⟩) hHeld ?_
            rotate_left
            · intro w hSw; (try dsimp only at hSw); go_simp; (try with_reducible rfl)
            (try simp only [Act.put, List.setIfInBounds_toArray, List.set_cons_zero, List.set_cons_succ])
            refine takeL (i := 10) (v := ?_) rfl (by kernel_rfl) (by kernel_rfl) (by kernel_rfl) (fun _ _ _ h => h) (Or.inl ⟨by rfl, ?_⟩) hHeld ?_
            rotate_left
            · intro w hSw; (try dsimp only at hSw); go_simp; (try with_reducible rfl)
            (try simp only [Act.put, List.setIfInBounds_toArray, List.set_cons_zero, List.set_cons_succ])
            refine takeL (i := 11) (v := ?_) rfl (by kernel_rfl) (by kernel_rfl) (by kernel_rfl) (fun _ _ _ h => h) (Or.inl ⟨by rfl, ?_⟩) hHeld ?_
            rotate_left
            · intro w hSw; (try dsimp only at hSw); go_simp; (try with_reducible rfl)
            (try simp only [Act.put, List.setIfInBounds_toArray, List.set_cons_zero, List.set_cons_succ])
            refine takeL (i := 12) (v := ?_) rfl (by kernel_rfl) (by kernel_rfl) (by kernel_rfl) (fun _ _ _ h => h) (Or.inl ⟨by rfl, ?_⟩) hHeld ?_
            rotate_left
            · intro w hSw; (try dsimp only at hSw); go_simp; (try with_reducible rfl)
            (try simp only [Act.put, List.setIfInBounds_toArray, List.set_cons_zero, List.set_cons_succ])
            refine takeL (i := 13) (v := ?_) rfl (by kernel_rfl) (by kernel_rfl) (by kernel_rfl) (fun _ _ _ h => h) (Or.inl ⟨by rfl, ?_⟩) hHeld ?_
            rotate_left
            · intro w hSw; (try dsimp only at hSw); go_simp; (try with_reducible rfl)
            (try simp only [Act.put, List.setIfInBounds_toArray, List.set_cons_zero, List.set_cons_succ])
            refine takeL (i := 14) (v := ?_) rfl (by kernel_rfl) (by kernel_rfl) (by kernel_rfl) (fun _ _ _ h => h) (Or.inl ⟨by rfl, ?_⟩) hHeld ?_
            rotate_left
            · intro w hSw; (try dsimp only at hSw); go_simp; (try with_reducible rfl)
            (try simp only [Act.put, List.setIfInBounds_toArray, List.set_cons_zero, List.set_cons_succ])
            refine takeL (i := 15) (v := ?_) rfl (by kernel_rfl) (by kernel_rfl) (by kernel_rfl) (fun _ _ _ h => h) (Or.inl ⟨by rfl, ?_⟩) hHeld ?_
            rotate_left
            · intro w hSw; (try dsimp only at hSw); go_simp; (try with_reducible rfl)
            (try simp only [Act.put, List.setIfInBounds_toArray, List.set_cons_zero, List.set_cons_succ])
            refine takeL (i := 16) (v := ?_) rfl (by kernel_rfl) (by kernel_rfl) (by kernel_rfl) (fun _ _ _ h => h) (Or.inl ⟨by rfl, ?_⟩) hHeld ?_
            rotate_left
            · intro w hSw; (try dsimp only at hSw); go_simp; (try with_reducible rfl)
            (try simp only [Act.put, List.setIfInBounds_toArray, List.set_cons_zero, List.set_cons_succ])
            refine takeL (i := 17) (v := ?_) rfl (by kernel_rfl) (by kernel_rfl) (by kernel_rfl) (fun _ _ _ h => h) (Or.inl ⟨by rfl, ?_⟩) hHeld ?_
            rotate_left
            · intro w hSw; (try dsimp only at hSw); go_simp; (try with_reducible rfl)
            (try simp only [Act.put, List.setIfInBounds_toArray, List.set_cons_zero, List.set_cons_succ])
            refine takeL (i := 18) (v := ?_) rfl (by kernel_rfl) (by kernel_rfl) (by kernel_rfl) (fun _ _ _ h => h) (Or.inl ⟨by rfl, ?_⟩) hHeld ?_
            rotate_left
            · intro w hSw; (try dsimp only at hSw); go_simp; (try with_reducible rfl)
            (try simp only [Act.put, List.setIfInBounds_toArray, List.set_cons_zero, List.set_cons_succ])
            refine takeL (i := 19) (v := ?_) rfl (by kernel_rfl) (by kernel_rfl) (by kernel_rfl) (fun _ _ _ h => h) (Or.inl ⟨by rfl, ?_⟩) hHeld ?_
            rotate_left
            · intro w hSw; (try dsimp only at hSw); go_simp; (try with_reducible rfl)
            (try simp only [Act.put, List.setIfInBounds_toArray, List.set_cons_zero, List.set_cons_succ])
            refine wpAnyH_done (by kernel_rfl) ?_ _
            go_wp2
            go_roundw
            case rel => exact ⟨i + 1, by omega, by go_num, hHeld.1, HN⟩
            case measure => simp [intOf]; omega
          · have HR := Lib.hid (HHIT.out k3)
            clear HHIT HMISS k3
            go_wp2
            refine wp_region_held_drew (S := (fun w' => Hid (Below wz.heap.size wz w') ∧ w'.cell? ⟨w.heap.size, 2, none⟩ = some (.slice (some ⟨bb, bo, none⟩) m d) ∧ w'.cell? ⟨w.heap.size + 1, 0, none⟩ = some (.int .i64 c1) ∧ w'.cell? ⟨w.heap.size + 1, 1, none⟩ = some (.int .i64 c2) ∧ w'.cell? ⟨bb, bo + i * 3, none⟩ = some (.int .i64 u1) ∧ w'.cell? ⟨bb, bo + i * 3 + 1, none⟩ = some (.int .i64 u2))) (by kernel_rfl) ?_ (fun hHeld => ?_)
            · (try dsimp only); exact ⟨Lib.hid (Below.drew (by repeat (first | exact HBR.out | refine Below.alloc ?_ (by first | omega | (simp; done) | (simp; omega)) _ | refine Below.setCell ?_ (by first | omega | (simp; done) | (simp; omega)) _))), p2, e0, e1, x0, x1⟩
            refine takeL (i := 0) (v := ?_) rfl (by kernel_rfl) (by kernel_rfl) (by kernel_rfl) (fun _ _ _ h => h) (Or.inl ⟨by rfl, ?_⟩) hHeld ?_
            rotate_left
            · intro w hSw; (try dsimp only at hSw); go_simp; (try with_reducible rfl)
            (try simp only [Act.put, List.setIfInBounds_toArray, List.set_cons_zero, List.set_cons_succ])
            refine takeL (i := 1) (v := ?_) rfl (by kernel_rfl) (by kernel_rfl) (by kernel_rfl) (fun _ _ _ h => h) (Or.inl ⟨by rfl, ?_⟩) hHeld ?_
            rotate_left
            · intro w hSw; (try dsimp only at hSw); go_simp; (try with_reducible rfl)
            (try simp only [Act.put, List.setIfInBounds_toArray, List.set_cons_zero, List.set_cons_succ])
            refine takeL (i := 2) (v := ?_) rfl (by kernel_rfl) (by kernel_rfl) (by kernel_rfl) (fun _ _ _ h => h) (Or.inl ⟨by rfl, ?_⟩) hHeld ?_
            rotate_left
            · intro w hSw; (try dsimp only at hSw); go_simp; (try with_reducible rfl)
            (try simp only [Act.put, List.setIfInBounds_toArray, List.set_cons_zero, List.set_cons_succ])
            refine takeL (i := 3) (v := ?_) rfl (by kernel_rfl) (by kernel_rfl) (by kernel_rfl) (fun _ _ _ h => h) (Or.inl ⟨by rfl, ?_⟩) hHeld ?_
            rotate_left
            · intro w hSw; (try dsimp only at hSw); go_simp; (try with_reducible rfl)
            (try simp only [Act.put, List.setIfInBounds_toArray, List.set_cons_zero, List.set_cons_succ])
            refine takeL (i := 4) (v := ?_) rfl (by kernel_rfl) (by kernel_rfl) (by kernel_rfl) (fun _ _ _ h => h) (Or.inl ⟨by rfl, ?_⟩) hHeld ?_
            rotate_left
            · intro w hSw; (try dsimp only at hSw); go_simp; (try with_reducible rfl)
            (try simp only [Act.put, List.setIfInBounds_toArray, List.set_cons_zero, List.set_cons_succ])
            refine takeL (i := 5) (v := ?_) rfl (by kernel_rfl) (by kernel_rfl) (by kernel_rfl) (fun _ _ _ h => h) (Or.inl ⟨by rfl, ?_⟩) hHeld ?_
            rotate_left
            · intro w hSw; (try dsimp only at hSw); go_simp; (try with_reducible rfl)
            (try simp only [Act.put, List.setIfInBounds_toArray, List.set_cons_zero, List.set_cons_succ])
            refine takeL (i := 6) (v := ?_) rfl (by kernel_rfl) (by kernel_rfl) (by kernel_rfl) (fun _ _ _ h => h) (Or.inl ⟨by rfl, ?_⟩) hHeld ?_
            rotate_left
            · intro w hSw; (try dsimp only at hSw); go_simp; (try with_reducible rfl)
            (try simp only [Act.put, List.setIfInBounds_toArray, List.set_cons_zero, List.set_cons_succ])
            refine takeL (i := 7) (v := ?_) rfl (by kernel_rfl) (by kernel_rfl) (by kernel_rfl) (fun _ _ _ h => h) (Or.inl ⟨by rfl, ?_⟩) hHeld ?_
            rotate_left
            · intro w hSw; (try dsimp only at hSw); go_simp; (try with_reducible rfl)
            (try simp only [Act.put, List.setIfInBounds_toArray, List.set_cons_zero, List.set_cons_succ])
            refine takeL (i := 8) (v := ?_) rfl (by kernel_rfl) (by kernel_rfl) (by kernel_rfl) (fun _ _ _ h => h) (Or.inl ⟨by rfl, ?_⟩) hHeld ?_
            rotate_left
            · intro w hSw; (try dsimp only at hSw); go_simp; (try with_reducible rfl)
            (try simp only [Act.put, List.setIfInBounds_toArray, List.set_cons_zero, List.set_cons_succ])
            refine takeL (i := 9) (v := ?_) rfl (by kernel_rfl) (by kernel_rfl) (by kernel_rfl) (fun _ _ _ h => h) (Or.inl ⟨by rfl, ?_⟩) hHeld ?_
            rotate_left
            · intro w hSw; (try dsimp only at hSw); go_simp; (try with_reducible rfl)
            (try simp only [Act.put, List.setIfInBounds_toArray, List.set_cons_zero, List.set_cons_succ])
            refine takeL (i := 10) (v := ?_) rfl (by kernel_rfl) (by kernel_rfl) (by kernel_rfl) (fun _ _ _ h => h) (Or.inl ⟨by rfl, ?_⟩) hHeld ?_
            rotate_left
            · intro w hSw; (try dsimp only at hSw); go_simp; (try with_reducible rfl)
            (try simp only [Act.put, List.setIfInBounds_toArray, List.set_cons_zero, List.set_cons_succ])
            refine takeL (i := 11) (v := ?_) rfl (by kernel_rfl) (by kernel_rfl) (by kernel_rfl) (fun _ _ _ h => h) (Or.inl ⟨by rfl, ?_⟩) hHeld ?_
            rotate_left
            · intro w hSw; (try dsimp only at hSw); go_simp; (try with_reducible rfl)
            (try simp only [Act.put, List.setIfInBounds_toArray, List.set_cons_zero, List.set_cons_succ])
            refine takeL (i := 12) (v := ?_) rfl (by kernel_rfl) (by kernel_rfl) (by kernel_rfl) (fun _ _ _ h => h) (Or.inl ⟨by rfl, ?_⟩) hHeld ?_
            rotate_left
            · intro w hSw; (try dsimp only at hSw); go_simp; (try with_reducible rfl)
            (try simp only [Act.put, List.setIfInBounds_toArray, List.set_cons_zero, List.set_cons_succ])
            refine takeL (i := 13) (v := ?_) rfl (by kernel_rfl) (by kernel_rfl) (by kernel_rfl) (fun _ _ _ h => h) (Or.inl ⟨by rfl, ?_⟩) hHeld ?_
            rotate_left
            · intro w hSw; (try dsimp only at hSw); go_simp; (try with_reducible rfl)
            (try simp only [Act.put, List.setIfInBounds_toArray, List.set_cons_zero, List.set_cons_succ])
            refine takeL (i := 14) (v := ?_) rfl (by kernel_rfl) (by kernel_rfl) (by kernel_rfl) (fun _ _ _ h => h) (Or.inl ⟨by rfl, ?_⟩) hHeld ?_
            rotate_left
            · intro w hSw; (try dsimp only at hSw); go_simp; (try with_reducible rfl)
            (try simp only [Act.put, List.setIfInBounds_toArray, List.set_cons_zero, List.set_cons_succ])
            refine takeL (i := 15) (v := ?_) rfl (by kernel_rfl) (by kernel_rfl) (by kernel_rfl) (fun _ _ _ h => h) (Or.inl ⟨by rfl, ?_⟩) hHeld ?_
            rotate_left
            · intro w hSw; (try dsimp only at hSw); go_simp; (try with_reducible rfl)
            (try simp only [Act.put, List.setIfInBounds_toArray, List.set_cons_zero, List.set_cons_succ])
            refine takeL (i := 16) (v := ?_) rfl (by kernel_rfl) (by kernel_rfl) (by kernel_rfl) (fun _ _ _ h => h) (Or.inl ⟨by rfl, ?_⟩) hHeld ?_
            rotate_left
            · intro w hSw; (try dsimp only at hSw); go_simp; (try with_reducible rfl)
            (try simp only [Act.put, List.setIfInBounds_toArray, List.set_cons_zero, List.set_cons_succ])
            refine takeL (i := 17) (v := ?_) rfl (by kernel_rfl) (by kernel_rfl) (by kernel_rfl) (fun _ _ _ h => h) (Or.inl ⟨by rfl, ?_⟩) hHeld ?_
            rotate_left
            · intro w hSw; (try dsimp only at hSw); go_simp; (try with_reducible rfl)
            (try simp only [Act.put, List.setIfInBounds_toArray, List.set_cons_zero, List.set_cons_succ])
            refine takeL (i := 18) (v := ?_) rfl (by kernel_rfl) (by kernel_rfl) (by kernel_rfl) (fun _ _ _ h => h) (Or.inl ⟨by rfl, ?_⟩) hHeld ?_
            rotate_left
            · intro w hSw; (try dsimp only at hSw); go_simp; (try with_reducible rfl)
            (try simp only [Act.put, List.setIfInBounds_toArray, List.set_cons_zero, List.set_cons_succ])
            refine takeL (i := 19) (v := ?_) rfl (by kernel_rfl) (by kernel_rfl) (by kernel_rfl) (fun _ _ _ h => h) (Or.inl ⟨by rfl, ?_⟩) hHeld ?_
            rotate_left
            · intro w hSw; (try dsimp only at hSw); go_simp; (try with_reducible rfl)
            (try simp only [Act.put, List.setIfInBounds_toArray, List.set_cons_zero, List.set_cons_succ])
            refine wpAnyH_done (by kernel_rfl) ?_ _
            go_wp2
            exact bodyPost_ret (v := .tuple #[.agg #[.int .i64 0, .slice none 0 0, .slice none 0 0], .int .i64 4]) (by simp [results, Try.results25, go_sem, d0, d1, d2]) rfl (givesAZ_nil HR.out (by repeat (first | exact HBW.out | refine Below.drew ?_ | refine Below.alloc ?_ (by first | omega | (simp; done) | (simp; omega)) _ | refine Below.setCell ?_ (by first | omega | (simp; done) | (simp; omega)) _)))
        · have hin : m = i := by omega
          subst hin
          have HNE : Hid (∀ j (h : j < t.2.2.length), sameK t.2.2[j] (c1, c2, c3) = false) := fun j h => HNO.out j h (by rw [← hm.out]; exact h)
          clear HNO HEX hlt hi
          by_cases hfull : 60 ≤ m
          · have HR : Hid (addZ t (c1, c2, c3) = ((0, [], []), 5)) := HFU.out (exB_no HNE.out) (by rw [hm.out]; exact hfull)
            have hfi : (60 : Int) ≤ (m : Int) := by omega
            clear hfull HFU HOK
            go_wp2
            exact bodyPost_ret (v := .tuple #[.agg #[.int .i64 0, .slice none 0 0, .slice none 0 0], .int .i64 5]) (by simp [results, Try.results25, go_sem, d0, d1, d2]) rfl (givesAZ_nil HR.out (by repeat (first | exact HBW.out | refine Below.alloc ?_ (by first | omega | (simp; done) | (simp; omega)) _ | refine Below.setCell ?_ (by first | omega | (simp; done) | (simp; omega)) _)))
          · have hfi : ¬ (60 : Int) ≤ (m : Int) := by omega
            clear HFU
            go_wp2
            clear p0 p1 p2 e0 e1 e2 d0 d1 d2 f0 f1 f2
            obtain ⟨wo, hwo⟩ : ∃ wo, wo = wr := ⟨wr, rfl⟩
            subst hwo
            go_loopw [7] (fun iv wr => ∃ k : Nat, k ≤ m ∧ iv = .int .i64 k ∧ Hid (Below wz.heap.size wz wr) ∧ Hid (GtK t.2.2 (c1, c2, c3) k)) (fun iv _ => (intOf iv).toNat)
            case atStart => exact ⟨m, by omega, rfl, HBR, fun j h1 h2 => by rw [hm.out] at h1; omega⟩
            case round =>
              clear HBR HBW
              obtain ⟨k, hk, rfl, HBR, HGT⟩ := hrel
              obtain ⟨⟨p0, p1, p2⟩, ⟨e0, e1, e2⟩, ⟨d0, d1, d2⟩, f0, f1, f2⟩ := HF.out _ HBR.out
              have HBW : Hid (Below w.heap.size w wr) := BL.out.trans (HBR.out.mono BL.out.size)
              have HFIN : Hid ((∀ q (e : k = q + 1), ¬ ltC (c1, c2, c3) (t.2.2[q]'(by rw [hm.out]; omega))) → addZ t (c1, c2, c3) = ((t.1, t.2.1, t.2.2.take k ++ (c1, c2, c3) :: t.2.2.drop k), 0)) := fun h => HOK.out k (ins_of_last HSO.out HNE.out (by rw [hm.out]; exact hk) HGT.out h) (by rw [hm.out]; exact hfull)
              by_cases hk0 : k = 0
              · have HR := Lib.hid (HFIN.out (fun q e => by omega))
                subst hk0
                clear HFIN
                go_wp2
                refine wp_region_held_drew (S := (fun w' => Hid (Below wz.heap.size wz w'))) (by kernel_rfl) ?_ (fun hHeld => ?_)
                · (try dsimp only); exact Lib.hid (Below.drew (by repeat (first | exact HBR.out | refine Below.alloc ?_ (by first | omega | (simp; done) | (simp; omega)) _ | refine Below.setCell ?_ (by first | omega | (simp; done) | (simp; omega)) _)))
                refine takeL (i := 0) (v := ?_) rfl (by kernel_rfl) (by kernel_rfl) (by kernel_rfl) (fun _ _ _ h => h) (Or.inl ⟨by rfl, ?_⟩) hHeld ?_
                rotate_left
                · intro w hSw; (try dsimp only at hSw); go_simp; (try with_reducible rfl)
                (try simp only [Act.put, List.setIfInBounds_toArray, List.set_cons_zero, List.set_cons_succ])
                refine takeL (i := 1) (v := ?_) rfl (by kernel_rfl) (by kernel_rfl) (by kernel_rfl) (fun _ _ _ h => h) (Or.inl ⟨by rfl, ?_⟩) hHeld ?_
                rotate_left
                · intro w hSw; (try dsimp only at hSw); go_simp; (try with_reducible rfl)
                (try simp only [Act.put, List.setIfInBounds_toArray, List.set_cons_zero, List.set_cons_succ])
                refine takeL (i := 2) (v := ?_) rfl (by kernel_rfl) (by kernel_rfl) (by kernel_rfl) (fun _ _ _ h => h) (Or.inl ⟨by rfl, ?_⟩) hHeld ?_
                rotate_left
                · intro w hSw; (try dsimp only at hSw); go_simp; (try with_reducible rfl)
                (try simp only [Act.put, List.setIfInBounds_toArray, List.set_cons_zero, List.set_cons_succ])
                refine takeL (i := 3) (v := undef) rfl (by kernel_rfl) (by kernel_rfl) (by kernel_rfl) (fun _ _ _ h => h) (Or.inr ⟨by rfl, rfl⟩) hHeld ?_
                (try simp only [Act.put, List.setIfInBounds_toArray, List.set_cons_zero, List.set_cons_succ])
                refine takeL (i := 4) (v := undef) rfl (by kernel_rfl) (by kernel_rfl) (by kernel_rfl) (fun _ _ _ h => h) (Or.inr ⟨by rfl, rfl⟩) hHeld ?_
                (try simp only [Act.put, List.setIfInBounds_toArray, List.set_cons_zero, List.set_cons_succ])
                refine takeL (i := 5) (v := undef) rfl (by kernel_rfl) (by kernel_rfl) (by kernel_rfl) (fun _ _ _ h => h) (Or.inr ⟨by rfl, rfl⟩) hHeld ?_
                (try simp only [Act.put, List.setIfInBounds_toArray, List.set_cons_zero, List.set_cons_succ])
                refine takeL (i := 6) (v := undef) rfl (by kernel_rfl) (by kernel_rfl) (by kernel_rfl) (fun _ _ _ h => h) (Or.inr ⟨by rfl, rfl⟩) hHeld ?_
                (try simp only [Act.put, List.setIfInBounds_toArray, List.set_cons_zero, List.set_cons_succ])
                refine takeL (i := 7) (v := undef) rfl (by kernel_rfl) (by kernel_rfl) (by kernel_rfl) (fun _ _ _ h => h) (Or.inr ⟨by rfl, rfl⟩) hHeld ?_
                (try simp only [Act.put, List.setIfInBounds_toArray, List.set_cons_zero, List.set_cons_succ])
                refine takeL (i := 8) (v := undef) rfl (by kernel_rfl) (by kernel_rfl) (by kernel_rfl) (fun _ _ _ h => h) (Or.inr ⟨by rfl, rfl⟩) hHeld ?_
                (try simp only [Act.put, List.setIfInBounds_toArray, List.set_cons_zero, List.set_cons_succ])
                refine takeL (i := 9) (v := undef) rfl (by kernel_rfl) (by kernel_rfl) (by kernel_rfl) (fun _ _ _ h => h) (Or.inr ⟨by rfl, rfl⟩) hHeld ?_
                (try simp only [Act.put, List.setIfInBounds_toArray, List.set_cons_zero, List.set_cons_succ])
                refine takeL (i := 10) (v := undef) rfl (by kernel_rfl) (by kernel_rfl) (by kernel_rfl) (fun _ _ _ h => h) (Or.inr ⟨by rfl, rfl⟩) hHeld ?_
                (try simp only [Act.put, List.setIfInBounds_toArray, List.set_cons_zero, List.set_cons_succ])
                refine takeL (i := 11) (v := undef) rfl (by kernel_rfl) (by kernel_rfl) (by kernel_rfl) (fun _ _ _ h => h) (Or.inr ⟨by rfl, rfl⟩) hHeld ?_
                (try simp only [Act.put, List.setIfInBounds_toArray, List.set_cons_zero, List.set_cons_succ])
                refine takeL (i := 12) (v := undef) rfl (by kernel_rfl) (by kernel_rfl) (by kernel_rfl) (fun _ _ _ h => h) (Or.inr ⟨by rfl, rfl⟩) hHeld ?_
                (try simp only [Act.put, List.setIfInBounds_toArray, List.set_cons_zero, List.set_cons_succ])
                refine takeL (i := 13) (v := undef) rfl (by kernel_rfl) (by kernel_rfl) (by kernel_rfl) (fun _ _ _ h => h) (Or.inr ⟨by rfl, rfl⟩) hHeld ?_
                (try simp only [Act.put, List.setIfInBounds_toArray, List.set_cons_zero, List.set_cons_succ])
                refine takeL (i := 14) (v := undef) rfl (by kernel_rfl) (by kernel_rfl) (by kernel_rfl) (fun _ _ _ h => h) (Or.inr ⟨by rfl, rfl⟩) hHeld ?_
                (try simp only [Act.put, List.setIfInBounds_toArray, List.set_cons_zero, List.set_cons_succ])
                refine takeL (i := 15) (v := undef) rfl (by kernel_rfl) (by kernel_rfl) (by kernel_rfl) (fun _ _ _ h => h) (Or.inr ⟨by rfl, rfl⟩) hHeld ?_
                (try simp only [Act.put, List.setIfInBounds_toArray, List.set_cons_zero, List.set_cons_succ])
                refine takeL (i := 16) (v := undef) rfl (by kernel_rfl) (by kernel_rfl) (by kernel_rfl) (fun _ _ _ h => h) (Or.inr ⟨by rfl, rfl⟩) hHeld ?_
                (try simp only [Act.put, List.setIfInBounds_toArray, List.set_cons_zero, List.set_cons_succ])
                refine takeL (i := 17) (v := undef) rfl (by kernel_rfl) (by kernel_rfl) (by kernel_rfl) (fun _ _ _ h => h) (Or.inr ⟨by rfl, rfl⟩) hHeld ?_
                (try simp only [Act.put, List.setIfInBounds_toArray, List.set_cons_zero, List.set_cons_succ])
                refine takeL (i := 18) (v := undef) rfl (by kernel_rfl) (by kernel_rfl) (by kernel_rfl) (fun _ _ _ h => h) (Or.inr ⟨by rfl, rfl⟩) hHeld ?_
                (try simp only [Act.put, List.setIfInBounds_toArray, List.set_cons_zero, List.set_cons_succ])
                refine takeL (i := 19) (v := undef) rfl (by kernel_rfl) (by kernel_rfl) (by kernel_rfl) (fun _ _ _ h => h) (Or.inr ⟨by rfl, rfl⟩) hHeld ?_
                (try simp only [Act.put, List.setIfInBounds_toArray, List.set_cons_zero, List.set_cons_succ])
                refine takeL (i := 20) (v := undef) rfl (by kernel_rfl) (by kernel_rfl) (by kernel_rfl) (fun _ _ _ h => h) (Or.inr ⟨by rfl, rfl⟩) hHeld ?_
                (try simp only [Act.put, List.setIfInBounds_toArray, List.set_cons_zero, List.set_cons_succ])
                refine takeL (i := 21) (v := undef) rfl (by kernel_rfl) (by kernel_rfl) (by kernel_rfl) (fun _ _ _ h => h) (Or.inr ⟨by rfl, rfl⟩) hHeld ?_
                (try simp only [Act.put, List.setIfInBounds_toArray, List.set_cons_zero, List.set_cons_succ])
                refine takeL (i := 22) (v := undef) rfl (by kernel_rfl) (by kernel_rfl) (by kernel_rfl) (fun _ _ _ h => h) (Or.inr ⟨by rfl, rfl⟩) hHeld ?_
                (try simp only [Act.put, List.setIfInBounds_toArray, List.set_cons_zero, List.set_cons_succ])
                refine takeL (i := 23) (v := undef) rfl (by kernel_rfl) (by kernel_rfl) (by kernel_rfl) (fun _ _ _ h => h) (Or.inr ⟨by rfl, rfl⟩) hHeld ?_
                (try simp only [Act.put, List.setIfInBounds_toArray, List.set_cons_zero, List.set_cons_succ])
                refine takeL (i := 24) (v := undef) rfl (by kernel_rfl) (by kernel_rfl) (by kernel_rfl) (fun _ _ _ h => h) (Or.inr ⟨by rfl, rfl⟩) hHeld ?_
                (try simp only [Act.put, List.setIfInBounds_toArray, List.set_cons_zero, List.set_cons_succ])
                refine takeL (i := 25) (v := undef) rfl (by kernel_rfl) (by kernel_rfl) (by kernel_rfl) (fun _ _ _ h => h) (Or.inr ⟨by rfl, rfl⟩) hHeld ?_
                (try simp only [Act.put, List.setIfInBounds_toArray, List.set_cons_zero, List.set_cons_succ])
                refine takeL (i := 26) (v := undef) rfl (by kernel_rfl) (by kernel_rfl) (by kernel_rfl) (fun _ _ _ h => h) (Or.inr ⟨by rfl, rfl⟩) hHeld ?_
                (try simp only [Act.put, List.setIfInBounds_toArray, List.set_cons_zero, List.set_cons_succ])
                refine takeL (i := 27) (v := undef) rfl (by kernel_rfl) (by kernel_rfl) (by kernel_rfl) (fun _ _ _ h => h) (Or.inr ⟨by rfl, rfl⟩) hHeld ?_
                (try simp only [Act.put, List.setIfInBounds_toArray, List.set_cons_zero, List.set_cons_succ])
                refine takeL (i := 28) (v := undef) rfl (by kernel_rfl) (by kernel_rfl) (by kernel_rfl) (fun _ _ _ h => h) (Or.inr ⟨by rfl, rfl⟩) hHeld ?_
                (try simp only [Act.put, List.setIfInBounds_toArray, List.set_cons_zero, List.set_cons_succ])
                refine takeL (i := 29) (v := undef) rfl (by kernel_rfl) (by kernel_rfl) (by kernel_rfl) (fun _ _ _ h => h) (Or.inr ⟨by rfl, rfl⟩) hHeld ?_
                (try simp only [Act.put, List.setIfInBounds_toArray, List.set_cons_zero, List.set_cons_succ])
                refine takeL (i := 30) (v := undef) rfl (by kernel_rfl) (by kernel_rfl) (by kernel_rfl) (fun _ _ _ h => h) (Or.inr ⟨by rfl, rfl⟩) hHeld ?_
                (try simp only [Act.put, List.setIfInBounds_toArray, List.set_cons_zero, List.set_cons_succ])
                refine takeL (i := 31) (v := undef) rfl (by kernel_rfl) (by kernel_rfl) (by kernel_rfl) (fun _ _ _ h => h) (Or.inr ⟨by rfl, rfl⟩) hHeld ?_
                (try simp only [Act.put, List.setIfInBounds_toArray, List.set_cons_zero, List.set_cons_succ])
                refine takeL (i := 32) (v := undef) rfl (by kernel_rfl) (by kernel_rfl) (by kernel_rfl) (fun _ _ _ h => h) (Or.inr ⟨by rfl, rfl⟩) hHeld ?_
                (try simp only [Act.put, List.setIfInBounds_toArray, List.set_cons_zero, List.set_cons_succ])
                refine takeL (i := 33) (v := undef) rfl (by kernel_rfl) (by kernel_rfl) (by kernel_rfl) (fun _ _ _ h => h) (Or.inr ⟨by rfl, rfl⟩) hHeld ?_
                (try simp only [Act.put, List.setIfInBounds_toArray, List.set_cons_zero, List.set_cons_succ])
                refine takeL (i := 34) (v := undef) rfl (by kernel_rfl) (by kernel_rfl) (by kernel_rfl) (fun _ _ _ h => h) (Or.inr ⟨by rfl, rfl⟩) hHeld ?_
                (try simp only [Act.put, List.setIfInBounds_toArray, List.set_cons_zero, List.set_cons_succ])
                refine takeL (i := 35) (v := undef) rfl (by kernel_rfl) (by kernel_rfl) (by kernel_rfl) (fun _ _ _ h => h) (Or.inr ⟨by rfl, rfl⟩) hHeld ?_
                (try simp only [Act.put, List.setIfInBounds_toArray, List.set_cons_zero, List.set_cons_succ])
                refine takeL (i := 36) (v := undef) rfl (by kernel_rfl) (by kernel_rfl) (by kernel_rfl) (fun _ _ _ h => h) (Or.inr ⟨by rfl, rfl⟩) hHeld ?_
                (try simp only [Act.put, List.setIfInBounds_toArray, List.set_cons_zero, List.set_cons_succ])
                refine takeL (i := 37) (v := ?_) rfl (by kernel_rfl) (by kernel_rfl) (by kernel_rfl) (fun _ _ _ h => h) (Or.inl ⟨by rfl, ?_⟩) hHeld ?_
                rotate_left
                · intro w hSw; (try dsimp only at hSw); go_simp; (try with_reducible rfl)
                (try simp only [Act.put, List.setIfInBounds_toArray, List.set_cons_zero, List.set_cons_succ])
                refine wpAnyH_done (by kernel_rfl) ?_ _
                obtain ⟨HRE, _⟩ : Hid (∀ W, Below wr.heap.size wr W → ∀ j u, ((t.2.2.drop 0).flatMap cChange)[j]? = some u → W.cell? ((⟨bb, bo, none⟩ : Addr).add j) = some u) ∧ True := ⟨fun W hW => ((HB.out _ HBW.out).below hW).newsC, trivial⟩
                have hfst : ∀ W : World, (Instr.slice 25 (.slice (some ⟨bb, bo, none⟩) m d) none (some (.int .i64 (0 : Int))) none).run Try.prog W = .ok (.slice (some ⟨bb, bo, none⟩) 0 d) W := head_run hd hk
                have HTK : Hid (∀ W, Below wr.heap.size wr W → ∀ j u, ((t.2.2.take 0).flatMap cChange)[j]? = some u → W.cell? ((⟨bb, bo, none⟩ : Addr).add j) = some u) := fun W hW => (((HB.out _ HBW.out).takeC 0).below hW).newsC
                have HTL : Hid (((t.2.2.take 0).flatMap cChange).length = 0 * 3) := by unfold Hid; rw [recsC_len, List.length_take, hm.out]; omega
                have HDL : Hid (((t.2.2.drop 0).flatMap cChange).length = m * 3) := by unfold Hid; rw [recsC_len, List.length_drop, hm.out]; (try rfl)
                have HI : Hid (∃ i0 : TypeInfo, Try.prog.info? 53 = some i0 ∧ i0.zero = some (.agg #[.int .i64 0, .int .i64 0, .int .i64 0]) ∧ i0.size = 3 ∧ i0.bytes = 24) := info_parts info53
                clear HSO HNE HOK hHeld
                go_wp2_with fail
                refine (OW.out wr.drew (Below.drew HBW.out) p0 p1 p2).mono ?_
                rintro e w7 ⟨⟨g, cg, g2, cq, rfl, HOWN⟩, hb7⟩
                have HBZ7 : Hid (Below wz.heap.size wz w7) := (Below.drew HBR.out).trans (hb7.mono HBR.out.size)
                have HB7 : Hid (Below w.heap.size w w7) := BL.out.trans (HBZ7.out.mono BL.out.size)
                have HW7 : Hid (Below wr.heap.size wr w7) := (Below.refl _ _).drew.trans hb7
                have HZ7 : Hid (w.heap.size + 1 + 1 < w7.heap.size) := by have := HBZ7.out.size; rw [BZ.out] at this; exact this
                clear p0 p1 p2 e0 e1 e2 d0 d1 d2 f0 f1 f2 hb7 OW
                obtain ⟨⟨p0, p1, p2⟩, ⟨e0, e1, e2⟩, ⟨d0, d1, d2⟩, f0, f1, f2⟩ := HF.out _ HBZ7.out
                have hz1 : w.heap.size < w7.heap.size := by have := HZ7.out; omega
                have hz2 : w.heap.size + 1 < w7.heap.size := by have := HZ7.out; omega
                have hz3 : w.heap.size + 1 + 1 < w7.heap.size := HZ7.out
                have hst7 : wr.heap.size ≤ w7.heap.size := HW7.out.size
                have hsz7 : wz.heap.size ≤ w7.heap.size := HBZ7.out.size
                have HW8 : Hid ((w7.alloc (.cells #[.int .i64 t.1, .slice (some ⟨g, 0, none⟩) n cg, .slice (some ⟨g2, 0, none⟩) m cq] 27)).heap.size = w7.heap.size + 1) := by unfold Hid; simp
                have HMADE : Hid (((w7.alloc (.cells #[.int .i64 t.1, .slice (some ⟨g, 0, none⟩) n cg, .slice (some ⟨g2, 0, none⟩) m cq] 27)).alloc (.cells #[] 53)).ownsRow (w7.heap.size + 1) 53 3 (.slice (some ⟨w7.heap.size + 1, 0, none⟩) 0 0) 0 []) := by
                  have h := World.ownsRow_made (base := w7.heap.size + 1) (e := 53) (size := 3) (w7.alloc (.cells #[.int .i64 t.1, .slice (some ⟨g, 0, none⟩) n cg, .slice (some ⟨g2, 0, none⟩) m cq] 27)) #[] 0 (by rw [HW8.out]; exact Nat.le_refl _) (by unfold maxLen; omega) rfl
                  rw [HW8.out] at h
                  exact h
                have HZC : Hid (∀ W, Below (w7.heap.size + 1) (w7.alloc (.cells #[.int .i64 t.1, .slice (some ⟨g, 0, none⟩) n cg, .slice (some ⟨g2, 0, none⟩) m cq] 27)) W → (W.cell? ⟨w7.heap.size, 0, none⟩ = some (.int .i64 t.1) ∧ W.cell? ⟨w7.heap.size, 1, none⟩ = some (.slice (some ⟨g, 0, none⟩) n cg) ∧ W.cell? ⟨w7.heap.size, 2, none⟩ = some (.slice (some ⟨g2, 0, none⟩) m cq)) ∧ W.frozen? ⟨w7.heap.size, 2, none⟩ = false) := fun W h =>
                  ⟨⟨(h.cell (p := ⟨w7.heap.size, 0, none⟩) (Nat.lt_succ_self _)).trans (by simp [go_sem]), (h.cell (p := ⟨w7.heap.size, 1, none⟩) (Nat.lt_succ_self _)).trans (by simp [go_sem]), (h.cell (p := ⟨w7.heap.size, 2, none⟩) (Nat.lt_succ_self _)).trans (by simp [go_sem])⟩, (h.frozen (p := ⟨w7.heap.size, 2, none⟩) (Nat.lt_succ_self _)).trans (by simp [go_sem])⟩
                have HBW7 : Hid (Below wz.heap.size wz (w7.alloc (.cells #[.int .i64 t.1, .slice (some ⟨g, 0, none⟩) n cg, .slice (some ⟨g2, 0, none⟩) m cq] 27))) := HBZ7.out.alloc hsz7 _
                have HRW7 : Hid (Below wr.heap.size wr (w7.alloc (.cells #[.int .i64 t.1, .slice (some ⟨g, 0, none⟩) n cg, .slice (some ⟨g2, 0, none⟩) m cq] 27))) := HW7.out.alloc hst7 _
                go_wp2_with (at_builtin; refine wpList_append_clone _ rfl _ _ 25 rfl (w7.heap.size + 1) 53 HI.out.choose (.agg #[.int .i64 0, .int .i64 0, .int .i64 0]) 3 24 Try.underlying25 HI.out.choose_spec.1 HI.out.choose_spec.2.1 HI.out.choose_spec.2.2.1 HI.out.choose_spec.2.2.2 rfl (by decide) (w7.heap.size + 1) rfl HMADE.out ⟨bb, bo, none⟩ 0 d _ rfl HTL.out (HTK.out _ (HRW7.out.alloc (by rw [HW8.out]; omega) _)) (recsC_one _) (by unfold maxLen; omega) (by omega) (by simp) ?_)
                intro g8 cap8 w8 hown8 hgrow8 hat8
                have HB8 : Hid (Below (w7.heap.size + 1) (w7.alloc (.cells #[.int .i64 t.1, .slice (some ⟨g, 0, none⟩) n cg, .slice (some ⟨g2, 0, none⟩) m cq] 27)) w8) := ((Below.refl _ _).alloc (by rw [HW8.out]; exact Nat.le_refl _) _ : Below (w7.heap.size + 1) (w7.alloc (.cells #[.int .i64 t.1, .slice (some ⟨g, 0, none⟩) n cg, .slice (some ⟨g2, 0, none⟩) m cq] 27)) ((w7.alloc (.cells #[.int .i64 t.1, .slice (some ⟨g, 0, none⟩) n cg, .slice (some ⟨g2, 0, none⟩) m cq] 27)).alloc (.cells #[] 53))).grown hgrow8 (by simp) (fun q hq => by simp at hq; omega)
                have HBZ8 : Hid (Below wz.heap.size wz w8) := HBW7.out.trans (HB8.out.mono (by omega))
                have HS8 : Hid (w7.heap.size + 1 ≤ w8.heap.size) := by have h := HB8.out.size; rw [HW8.out] at h; exact h
                have HO8 := Lib.hid hown8
                clear p0 p1 p2 e0 e1 e2 d0 d1 d2 f0 f1 f2 hown8 hgrow8 hat8
                obtain ⟨⟨p0, p1, p2⟩, ⟨e0, e1, e2⟩, ⟨d0, d1, d2⟩, f0, f1, f2⟩ := HF.out _ HBZ8.out
                have hs8 : w7.heap.size + 1 ≤ w8.heap.size := HS8.out
                go_wp2_with (at_builtin; refine wpList_append_lies _ rfl _ _ 25 rfl (w7.heap.size + 1) 53 HI.out.choose (.agg #[.int .i64 0, .int .i64 0, .int .i64 0]) 3 24 Try.underlying25 HI.out.choose_spec.1 HI.out.choose_spec.2.1 HI.out.choose_spec.2.2.1 HI.out.choose_spec.2.2.2 rfl (by decide) (.slice (some ⟨g8, 0, none⟩) 0 cap8) 0 _ rfl (HO8.out.alloc _) ⟨w8.heap.size, 0, none⟩ 1 1 [.int .i64 c1, .int .i64 c2, .int .i64 c3] rfl rfl (World.news_of_block (heap_alloc_new _ _)) (by intro u hu; simp at hu; rcases hu with rfl | rfl | rfl <;> rfl) (by omega) (by unfold maxLen; omega) (by omega) (by simp; omega) (w8.heap.size + 1) (by simp) ?_)
                intro g9 cap9 w9 hown9 hgrow9 hat9 hlt9
                have HB9 : Hid (Below (w7.heap.size + 1) (w7.alloc (.cells #[.int .i64 t.1, .slice (some ⟨g, 0, none⟩) n cg, .slice (some ⟨g2, 0, none⟩) m cq] 27)) w9) := (HB8.out.alloc hs8 _).grown hgrow9 (by simp; omega) (fun q hq => (HO8.out.lt q hq).1)
                have HBZ9 : Hid (Below wz.heap.size wz w9) := HBW7.out.trans (HB9.out.mono (by omega))
                have HRW9 : Hid (Below wr.heap.size wr w9) := HRW7.out.trans (HB9.out.mono (by omega))
                have HS9 : Hid (w7.heap.size + 1 ≤ w9.heap.size) := by have h := HB9.out.size; rw [HW8.out] at h; exact h
                have HO9 := Lib.hid hown9
                clear p0 p1 p2 e0 e1 e2 d0 d1 d2 f0 f1 f2 hown9 hgrow9 hat9
                obtain ⟨⟨p0, p1, p2⟩, ⟨e0, e1, e2⟩, ⟨d0, d1, d2⟩, f0, f1, f2⟩ := HF.out _ HBZ9.out
                go_wp2_with (at_builtin; refine wpList_append_more _ rfl _ _ 25 rfl (w7.heap.size + 1) 53 HI.out.choose (.agg #[.int .i64 0, .int .i64 0, .int .i64 0]) 3 24 Try.underlying25 HI.out.choose_spec.1 HI.out.choose_spec.2.1 HI.out.choose_spec.2.2.1 HI.out.choose_spec.2.2.2 rfl (by decide) (.slice (some ⟨g9, 0, none⟩) 1 cap9) 1 _ rfl HO9.out (by omega) ⟨bb, bo, none⟩ m d _ rfl HDL.out (HRE.out _ HRW9.out) (recsC_one _) (by unfold maxLen; omega) (by omega) HS9.out ?_)
                intro g5 cap5 w5 hown5 hgrow5 hat5
                have HB5 : Hid (Below (w7.heap.size + 1) (w7.alloc (.cells #[.int .i64 t.1, .slice (some ⟨g, 0, none⟩) n cg, .slice (some ⟨g2, 0, none⟩) m cq] 27)) w5) := HB9.out.grown hgrow5 HS9.out (fun q hq => (HO9.out.lt q hq).1)
                have HBZ5 : Hid (Below wz.heap.size wz w5) := HBW7.out.trans (HB5.out.mono (by omega))
                have HS5 : Hid (w7.heap.size + 1 ≤ w5.heap.size) := by have h := HB5.out.size; rw [HW8.out] at h; exact h
                have HR5 : Hid (Below w7.heap.size w7 w5) := Below.trans (b := (w7.alloc (.cells #[.int .i64 t.1, .slice (some ⟨g, 0, none⟩) n cg, .slice (some ⟨g2, 0, none⟩) m cq] 27))) ((Below.refl _ _).alloc (Nat.le_refl _) _) (HB5.out.mono (by omega))
                have HO5 := Lib.hid hown5
                have HB6 : Hid (Below w.heap.size w w5) := BL.out.trans (HBZ5.out.mono BL.out.size)
                clear p0 p1 p2 e0 e1 e2 d0 d1 d2 f0 f1 f2 hown5 hgrow5 hat5
                obtain ⟨⟨p0, p1, p2⟩, ⟨e0, e1, e2⟩, ⟨d0, d1, d2⟩, f0, f1, f2⟩ := HF.out _ HBZ5.out
                obtain ⟨⟨z0, z1, z2⟩, z3⟩ := HZC.out _ HB5.out
                have hs5 : w7.heap.size + 1 ≤ w5.heap.size := HS5.out
                have hd0 : w7.heap.size ≠ w.heap.size + 1 + 1 := by omega
                have hd1 : w.heap.size + 1 + 1 ≠ w7.heap.size := by omega
                go_wp2_with fail
                have R0 := HOWN.out.below HR5.out
                have hg7 : g < w7.heap.size := (R0.2 g rfl).2
                have hgl : wr.drew.heap.size ≤ g := (R0.2 g rfl).1
                have hwr1 : wr.drew.heap.size = wr.heap.size := rfl
                have hwz1 : wz.heap.size ≤ wr.heap.size := HBR.out.size
                have hwz2 : wz.heap.size = w.heap.size + 1 + 1 + 1 := BZ.out
                have R2 : Row (w7.heap.size + 1) w5.heap.size 53 3 (.slice (some ⟨g5, 0, none⟩) (1 + m) cap5) (1 + m) ((t.2.2.take 0 ++ (c1, c2, c3) :: t.2.2.drop 0).flatMap cChange) w5 := by
                  have h := Row.of HO5.out
                  simpa [cChange] using h
                have hg5 : w7.heap.size + 1 ≤ g5 := (R2.2 g5 rfl).1
                have hc1 : (t.2.2.take 0 ++ (c1, c2, c3) :: t.2.2.drop 0).length = 1 + m := by rw [List.length_append, List.length_cons, List.length_take, List.length_drop, hm.out]; omega
                have R3 := (row_setCell (row_setCell (row_setCell (row_setCell R2 (b := w7.heap.size) (o := 2) (by omega) (.slice (some ⟨g5, 0, none⟩) (1 + m) cap5)) (b := w.heap.size + 1 + 1) (o := 0) (by omega) (.int .i64 t.1)) (b := w.heap.size + 1 + 1) (o := 1) (by omega) (.slice (some ⟨g, 0, none⟩) n cg)) (b := w.heap.size + 1 + 1) (o := 2) (by omega) (.slice (some ⟨g5, 0, none⟩) (1 + m) cap5)).widen (lo' := w.heap.size) (by omega) (Nat.le_refl _)
                have R4 := (row_setCell (row_setCell (row_setCell (row_setCell_hi R0 (b := w7.heap.size) (o := 2) (Nat.le_refl _) (.slice (some ⟨g5, 0, none⟩) (1 + m) cap5)) (b := w.heap.size + 1 + 1) (o := 0) (by omega) (.int .i64 t.1)) (b := w.heap.size + 1 + 1) (o := 1) (by omega) (.slice (some ⟨g, 0, none⟩) n cg)) (b := w.heap.size + 1 + 1) (o := 2) (by omega) (.slice (some ⟨g5, 0, none⟩) (1 + m) cap5)).widen (lo' := w.heap.size) (by omega) (Nat.le_refl _)
                exact bodyPost_ret (v := .tuple #[.agg #[.int .i64 t.1, .slice (some ⟨g, 0, none⟩) n cg, .slice (some ⟨g5, 0, none⟩) (1 + m) cap5], .int .i64 0]) (by simp [results, Try.results25, go_sem, d0, d1, d2]) rfl (givesAZ_of (t := (t.1, t.2.1, t.2.2.take 0 ++ (c1, c2, c3) :: t.2.2.drop 0)) HR.out (by repeat (first | exact HB6.out | refine Below.alloc ?_ (by first | omega | (simp; done) | (simp; omega)) _ | refine Below.setCell ?_ (by first | omega | (simp; done) | (simp; omega)) _)) hn.out hc1 R4.1 R3.1 (by omega))
              · have hqa : k - 1 < t.2.2.length := by rw [hm.out]; omega
                have hcs := (HB.out _ HBW.out).cells_ (k - 1) hqa
                have x0 := hcs 0 _ rfl
                have x1 := hcs 1 _ rfl
                simp only [Nat.add_zero] at x0
                clear hcs
                have HGO : Hid (ltC (c1, c2, c3) t.2.2[k - 1] → GtK t.2.2 (c1, c2, c3) (k - 1)) := fun h j h1 h2 => by
                  by_cases e : j = k - 1
                  · subst e; exact h
                  · exact HGT.out j h1 (by omega)
                have HST : Hid (¬ ltC (c1, c2, c3) t.2.2[k - 1] → addZ t (c1, c2, c3) = ((t.1, t.2.1, t.2.2.take k ++ (c1, c2, c3) :: t.2.2.drop k), 0)) := fun h => HFIN.out (fun q e => by subst e; exact h)
                generalize t.2.2[k - 1] = u at x0 x1 HGO HST
                obtain ⟨u1, u2, u3⟩ := u
                dsimp only at x0 x1
                have hkp : (0 : Int) < (k : Int) := by omega
                have hkn : 0 < k := by omega
                have hk1i : (1 : Int) ≤ (k : Int) := by omega
                have hwr : IntKind.i64.wrap ((k : Int) - 1) = (k : Int) - 1 := IntWalk.i64_in _ (by omega)
                have hnt : ((k : Int) - 1).toNat = k - 1 := by omega
                have hq0 : (0 : Int) ≤ (k : Int) - 1 := by omega
                have hq1 : (k : Int) - 1 < (m : Int) := by omega
                have h4 : (ltC (c1, c2, c3) (u1, u2, u3) ∧ c1 < u1) ∨ (¬ ltC (c1, c2, c3) (u1, u2, u3) ∧ ¬ c1 < u1 ∧ (u1 == c1) = false) ∨ (ltC (c1, c2, c3) (u1, u2, u3) ∧ ¬ c1 < u1 ∧ (u1 == c1) = true ∧ c2 < u2) ∨ (¬ ltC (c1, c2, c3) (u1, u2, u3) ∧ ¬ c1 < u1 ∧ (u1 == c1) = true ∧ ¬ c2 < u2) := by
                  unfold ltC
                  simp
                  omega
                clear HFIN HGT hk0
                rcases h4 with ⟨hl, g1⟩ | ⟨hl, g1, g2⟩ | ⟨hl, g1, g2, g3⟩ | ⟨hl, g1, g2, g3⟩
                · have HN := Lib.hid (HGO.out hl)
                  clear HGO HST hl
                  go_wp2
                  refine wp_region_held_drew (S := (fun w' => Hid (Below wz.heap.size wz w') ∧ w'.cell? ⟨w.heap.size, 2, none⟩ = some (.slice (some ⟨bb, bo, none⟩) m d) ∧ w'.cell? ⟨w.heap.size + 1, 0, none⟩ = some (.int .i64 c1) ∧ w'.cell? ⟨w.heap.size + 1, 1, none⟩ = some (.int .i64 c2) ∧ w'.cell? ⟨bb, bo + (k - 1) * 3, none⟩ = some (.int .i64 u1) ∧ w'.cell? ⟨bb, bo + (k - 1) * 3 + 1, none⟩ = some (.int .i64 u2))) (by kernel_rfl) ?_ (fun hHeld => ?_)
                  · (try dsimp only); exact ⟨Lib.hid (Below.drew (by repeat (first | exact HBR.out | refine Below.alloc ?_ (by first | omega | (simp; done) | (simp; omega)) _ | refine Below.setCell ?_ (by first | omega | (simp; done) | (simp; omega)) _))), p2, e0, e1, x0, x1⟩
                  refine takeL (i := 0) (v := ?_) rfl (by kernel_rfl) (by kernel_rfl) (by kernel_rfl) (fun _ _ _ h => h) (Or.inl ⟨by rfl, ?_⟩) hHeld ?_
                  rotate_left
                  · intro w hSw; (try dsimp only at hSw); go_simp; (try with_reducible rfl)
                  (try simp only [Act.put, List.setIfInBounds_toArray, List.set_cons_zero, List.set_cons_succ])
                  refine takeL (i := 1) (v := ?_) rfl (by kernel_rfl) (by kernel_rfl) (by kernel_rfl) (fun _ _ _ h => h) (Or.inl ⟨by rfl, ?_⟩) hHeld ?_
                  rotate_left
                  · intro w hSw; (try dsimp only at hSw); go_simp; (try with_reducible rfl)
                  (try simp only [Act.put, List.setIfInBounds_toArray, List.set_cons_zero, List.set_cons_succ])
                  refine takeL (i := 2) (v := ?_) rfl (by kernel_rfl) (by kernel_rfl) (by kernel_rfl) (fun _ _ _ h => h) (Or.inl ⟨by rfl, ?_⟩) hHeld ?_
                  rotate_left
                  · intro w hSw; (try dsimp only at hSw); go_simp; (try with_reducible rfl)
                  (try simp only [Act.put, List.setIfInBounds_toArray, List.set_cons_zero, List.set_cons_succ])
                  refine takeL (i := 3) (v := ?_) rfl (by kernel_rfl) (by kernel_rfl) (by kernel_rfl) (fun _ _ _ h => h) (Or.inl ⟨by rfl, ?_⟩) hHeld ?_
                  rotate_left
                  · intro w hSw; (try dsimp only at hSw); go_simp; (try with_reducible rfl)
                  (try simp only [Act.put, List.setIfInBounds_toArray, List.set_cons_zero, List.set_cons_succ])
                  refine takeL (i := 4) (v := ?_) rfl (by kernel_rfl) (by kernel_rfl) (by kernel_rfl) (fun _ _ _ h => h) (Or.inl ⟨by rfl, ?_⟩) hHeld ?_
                  rotate_left
                  · intro w hSw; (try dsimp only at hSw); go_simp; (try with_reducible rfl)
                  (try simp only [Act.put, List.setIfInBounds_toArray, List.set_cons_zero, List.set_cons_succ])
                  refine takeL (i := 5) (v := ?_) rfl (by kernel_rfl) (by kernel_rfl) (by kernel_rfl) (fun _ _ _ h => h) (Or.inl ⟨by rfl, ?_⟩) hHeld ?_
                  rotate_left
                  · intro w hSw; (try dsimp only at hSw); go_simp; (try with_reducible rfl)
                  (try simp only [Act.put, List.setIfInBounds_toArray, List.set_cons_zero, List.set_cons_succ])
                  refine takeL (i := 6) (v := ?_) rfl (by kernel_rfl) (by kernel_rfl) (by kernel_rfl) (fun _ _ _ h => h) (Or.inl ⟨by rfl, ?_⟩) hHeld ?_
                  rotate_left
                  · intro w hSw; (try dsimp only at hSw); go_simp; (try with_reducible rfl)
                  (try simp only [Act.put, List.setIfInBounds_toArray, List.set_cons_zero, List.set_cons_succ])
                  refine takeL (i := 7) (v := ?_) rfl (by kernel_rfl) (by kernel_rfl) (by kernel_rfl) (fun _ _ _ h => h) (Or.inl ⟨by rfl, ?_⟩) hHeld ?_
                  rotate_left
                  · intro w hSw; (try dsimp only at hSw); go_simp; (try with_reducible rfl)
                  (try simp only [Act.put, List.setIfInBounds_toArray, List.set_cons_zero, List.set_cons_succ])
                  refine takeL (i := 8) (v := ?_) rfl (by kernel_rfl) (by kernel_rfl) (by kernel_rfl) (fun _ _ _ h => h) (Or.inl ⟨by rfl, ?_⟩) hHeld ?_
                  rotate_left
                  · intro w hSw; (try dsimp only at hSw); go_simp; (try with_reducible rfl)
                  (try simp only [Act.put, List.setIfInBounds_toArray, List.set_cons_zero, List.set_cons_succ])
                  refine takeL (i := 9) (v := ?_) rfl (by kernel_rfl) (by kernel_rfl) (by kernel_rfl) (fun _ _ _ h => h) (Or.inl ⟨by rfl, ?_⟩) hHeld ?_
                  rotate_left
                  · intro w hSw; (try dsimp only at hSw); go_simp; (try with_reducible rfl)
                  (try simp only [Act.put, List.setIfInBounds_toArray, List.set_cons_zero, List.set_cons_succ])
                  refine takeL (i := 10) (v := ?_) rfl (by kernel_rfl) (by kernel_rfl) (by kernel_rfl) (fun _ _ _ h => h) (Or.inl ⟨by rfl, ?_⟩) hHeld ?_
                  rotate_left
                  · intro w hSw; (try dsimp only at hSw); go_simp; (try with_reducible rfl)
                  (try simp only [Act.put, List.setIfInBounds_toArray, List.set_cons_zero, List.set_cons_succ])
                  refine takeL (i := 11) (v := ?_) rfl (by kernel_rfl) (by kernel_rfl) (by kernel_rfl) (fun _ _ _ h => h) (Or.inl ⟨by rfl, ?_⟩) hHeld ?_
                  rotate_left
                  · intro w hSw; (try dsimp only at hSw); go_simp; (try with_reducible rfl)
                  (try simp only [Act.put, List.setIfInBounds_toArray, List.set_cons_zero, List.set_cons_succ])
                  refine takeL (i := 12) (v := ?_) rfl (by kernel_rfl) (by kernel_rfl) (by kernel_rfl) (fun _ _ _ h => h) (Or.inl ⟨by rfl, ?_⟩) hHeld ?_
                  rotate_left
                  · intro w hSw; (try dsimp only at hSw); go_simp; (try with_reducible rfl)
                  (try simp only [Act.put, List.setIfInBounds_toArray, List.set_cons_zero, List.set_cons_succ])
                  refine takeL (i := 13) (v := ?_) rfl (by kernel_rfl) (by kernel_rfl) (by kernel_rfl) (fun _ _ _ h => h) (Or.inl ⟨by rfl, ?_⟩) hHeld ?_
                  rotate_left
                  · intro w hSw; (try dsimp only at hSw); go_simp; (try with_reducible rfl)
                  (try simp only [Act.put, List.setIfInBounds_toArray, List.set_cons_zero, List.set_cons_succ])
                  refine takeL (i := 14) (v := undef) rfl (by kernel_rfl) (by kernel_rfl) (by kernel_rfl) (fun _ _ _ h => h) (Or.inr ⟨by rfl, rfl⟩) hHeld ?_
                  (try simp only [Act.put, List.setIfInBounds_toArray, List.set_cons_zero, List.set_cons_succ])
                  refine takeL (i := 15) (v := undef) rfl (by kernel_rfl) (by kernel_rfl) (by kernel_rfl) (fun _ _ _ h => h) (Or.inr ⟨by rfl, rfl⟩) hHeld ?_
                  (try simp only [Act.put, List.setIfInBounds_toArray, List.set_cons_zero, List.set_cons_succ])
                  refine takeL (i := 16) (v := undef) rfl (by kernel_rfl) (by kernel_rfl) (by kernel_rfl) (fun _ _ _ h => h) (Or.inr ⟨by rfl, rfl⟩) hHeld ?_
                  (try simp only [Act.put, List.setIfInBounds_toArray, List.set_cons_zero, List.set_cons_succ])
                  refine takeL (i := 17) (v := undef) rfl (by kernel_rfl) (by kernel_rfl) (by kernel_rfl) (fun _ _ _ h => h) (Or.inr ⟨by rfl, rfl⟩) hHeld ?_
                  (try simp only [Act.put, List.setIfInBounds_toArray, List.set_cons_zero, List.set_cons_succ])
                  refine takeL (i := 18) (v := undef) rfl (by kernel_rfl) (by kernel_rfl) (by kernel_rfl) (fun _ _ _ h => h) (Or.inr ⟨by rfl, rfl⟩) hHeld ?_
                  (try simp only [Act.put, List.setIfInBounds_toArray, List.set_cons_zero, List.set_cons_succ])
                  refine takeL (i := 19) (v := undef) rfl (by kernel_rfl) (by kernel_rfl) (by kernel_rfl) (fun _ _ _ h => h) (Or.inr ⟨by rfl, rfl⟩) hHeld ?_
                  (try simp only [Act.put, List.setIfInBounds_toArray, List.set_cons_zero, List.set_cons_succ])
                  refine takeL (i := 20) (v := undef) rfl (by kernel_rfl) (by kernel_rfl) (by kernel_rfl) (fun _ _ _ h => h) (Or.inr ⟨by rfl, rfl⟩) hHeld ?_
                  (try simp only [Act.put, List.setIfInBounds_toArray, List.set_cons_zero, List.set_cons_succ])
                  refine takeL (i := 21) (v := undef) rfl (by kernel_rfl) (by kernel_rfl) (by kernel_rfl) (fun _ _ _ h => h) (Or.inr ⟨by rfl, rfl⟩) hHeld ?_
                  (try simp only [Act.put, List.setIfInBounds_toArray, List.set_cons_zero, List.set_cons_succ])
                  refine takeL (i := 22) (v := undef) rfl (by kernel_rfl) (by kernel_rfl) (by kernel_rfl) (fun _ _ _ h => h) (Or.inr ⟨by rfl, rfl⟩) hHeld ?_
                  (try simp only [Act.put, List.setIfInBounds_toArray, List.set_cons_zero, List.set_cons_succ])
                  refine takeL (i := 23) (v := undef) rfl (by kernel_rfl) (by kernel_rfl) (by kernel_rfl) (fun _ _ _ h => h) (Or.inr ⟨by rfl, rfl⟩) hHeld ?_
                  (try simp only [Act.put, List.setIfInBounds_toArray, List.set_cons_zero, List.set_cons_succ])
                  refine takeL (i := 24) (v := undef) rfl (by kernel_rfl) (by kernel_rfl) (by kernel_rfl) (fun _ _ _ h => h) (Or.inr ⟨by rfl, rfl⟩) hHeld ?_
                  (try simp only [Act.put, List.setIfInBounds_toArray, List.set_cons_zero, List.set_cons_succ])
                  refine takeL (i := 25) (v := undef) rfl (by kernel_rfl) (by kernel_rfl) (by kernel_rfl) (fun _ _ _ h => h) (Or.inr ⟨by rfl, rfl⟩) hHeld ?_
                  (try simp only [Act.put, List.setIfInBounds_toArray, List.set_cons_zero, List.set_cons_succ])
                  refine takeL (i := 26) (v := undef) rfl (by kernel_rfl) (by kernel_rfl) (by kernel_rfl) (fun _ _ _ h => h) (Or.inr ⟨by rfl, rfl⟩) hHeld ?_
                  (try simp only [Act.put, List.setIfInBounds_toArray, List.set_cons_zero, List.set_cons_succ])
                  refine takeL (i := 27) (v := undef) rfl (by kernel_rfl) (by kernel_rfl) (by kernel_rfl) (fun _ _ _ h => h) (Or.inr ⟨by rfl, rfl⟩) hHeld ?_
                  (try simp only [Act.put, List.setIfInBounds_toArray, List.set_cons_zero, List.set_cons_succ])
                  refine takeL (i := 28) (v := undef) rfl (by kernel_rfl) (by kernel_rfl) (by kernel_rfl) (fun _ _ _ h => h) (Or.inr ⟨by rfl, rfl⟩) hHeld ?_
                  (try simp only [Act.put, List.setIfInBounds_toArray, List.set_cons_zero, List.set_cons_succ])
                  refine takeL (i := 29) (v := undef) rfl (by kernel_rfl) (by kernel_rfl) (by kernel_rfl) (fun _ _ _ h => h) (Or.inr ⟨by rfl, rfl⟩) hHeld ?_
                  (try simp only [Act.put, List.setIfInBounds_toArray, List.set_cons_zero, List.set_cons_succ])
                  refine takeL (i := 30) (v := undef) rfl (by kernel_rfl) (by kernel_rfl) (by kernel_rfl) (fun _ _ _ h => h) (Or.inr ⟨by rfl, rfl⟩) hHeld ?_
                  (try simp only [Act.put, List.setIfInBounds_toArray, List.set_cons_zero, List.set_cons_succ])
                  refine takeL (i := 31) (v := undef) rfl (by kernel_rfl) (by kernel_rfl) (by kernel_rfl) (fun _ _ _ h => h) (Or.inr ⟨by rfl, rfl⟩) hHeld ?_
                  (try simp only [Act.put, List.setIfInBounds_toArray, List.set_cons_zero, List.set_cons_succ])
                  refine takeL (i := 32) (v := undef) rfl (by kernel_rfl) (by kernel_rfl) (by kernel_rfl) (fun _ _ _ h => h) (Or.inr ⟨by rfl, rfl⟩) hHeld ?_
                  (try simp only [Act.put, List.setIfInBounds_toArray, List.set_cons_zero, List.set_cons_succ])
                  refine takeL (i := 33) (v := undef) rfl (by kernel_rfl) (by kernel_rfl) (by kernel_rfl) (fun _ _ _ h => h) (Or.inr ⟨by rfl, rfl⟩) hHeld ?_
                  (try simp only [Act.put, List.setIfInBounds_toArray, List.set_cons_zero, List.set_cons_succ])
                  refine takeL (i := 34) (v := undef) rfl (by kernel_rfl) (by kernel_rfl) (by kernel_rfl) (fun _ _ _ h => h) (Or.inr ⟨by rfl, rfl⟩) hHeld ?_
                  (try simp only [Act.put, List.setIfInBounds_toArray, List.set_cons_zero, List.set_cons_succ])
                  refine takeL (i := 35) (v := undef) rfl (by kernel_rfl) (by kernel_rfl) (by kernel_rfl) (fun _ _ _ h => h) (Or.inr ⟨by rfl, rfl⟩) hHeld ?_
                  (try simp only [Act.put, List.setIfInBounds_toArray, List.set_cons_zero, List.set_cons_succ])
                  refine takeL (i := 36) (v := ?_) rfl (by kernel_rfl) (by kernel_rfl) (by kernel_rfl) (fun _ _ _ h => h) (Or.inl ⟨by rfl, ?_⟩) hHeld ?_
                  rotate_left
                  · intro w hSw; (try dsimp only at hSw); go_simp; (try with_reducible rfl)
                  (try simp only [Act.put, List.setIfInBounds_toArray, List.set_cons_zero, List.set_cons_succ])
                  refine takeL (i := 37) (v := ?_) rfl (by kernel_rfl) (by kernel_rfl) (by kernel_rfl) (fun _ _ _ h => h) (Or.inl ⟨by rfl, ?_⟩) hHeld ?_
                  rotate_left
                  · intro w hSw; (try dsimp only at hSw); go_simp; (try with_reducible rfl)
                  (try simp only [Act.put, List.setIfInBounds_toArray, List.set_cons_zero, List.set_cons_succ])
                  refine wpAnyH_done (by kernel_rfl) ?_ _
                  go_wp2
                  go_roundw
                  case rel => exact ⟨k - 1, by omega, by go_num, hHeld.1, HN⟩
                  case measure => simp [intOf]; omega
                · have HR := Lib.hid (HST.out hl)
                  clear HGO HST hl
                  go_wp2
                  have g1x : ¬ c1 < u1 := by omega
                  refine wp_region_held_drew (S := (fun w' => Hid (Below wz.heap.size wz w') ∧ w'.cell? ⟨w.heap.size, 2, none⟩ = some (.slice (some ⟨bb, bo, none⟩) m d) ∧ w'.cell? ⟨w.heap.size + 1, 0, none⟩ = some (.int .i64 c1) ∧ w'.cell? ⟨w.heap.size + 1, 1, none⟩ = some (.int .i64 c2) ∧ w'.cell? ⟨bb, bo + (k - 1) * 3, none⟩ = some (.int .i64 u1) ∧ w'.cell? ⟨bb, bo + (k - 1) * 3 + 1, none⟩ = some (.int .i64 u2))) (by kernel_rfl) ?_ (fun hHeld => ?_)
                  · (try dsimp only); exact ⟨Lib.hid (Below.drew (by repeat (first | exact HBR.out | refine Below.alloc ?_ (by first | omega | (simp; done) | (simp; omega)) _ | refine Below.setCell ?_ (by first | omega | (simp; done) | (simp; omega)) _))), p2, e0, e1, x0, x1⟩
                  refine takeL (i := 0) (v := ?_) rfl (by kernel_rfl) (by kernel_rfl) (by kernel_rfl) (fun _ _ _ h => h) (Or.inl ⟨by rfl, ?_⟩) hHeld ?_
                  rotate_left
                  · intro w hSw; (try dsimp only at hSw); go_simp; (try with_reducible rfl)
                  (try simp only [Act.put, List.setIfInBounds_toArray, List.set_cons_zero, List.set_cons_succ])
                  refine takeL (i := 1) (v := ?_) rfl (by kernel_rfl) (by kernel_rfl) (by kernel_rfl) (fun _ _ _ h => h) (Or.inl ⟨by rfl, ?_⟩) hHeld ?_
                  rotate_left
                  · intro w hSw; (try dsimp only at hSw); go_simp; (try with_reducible rfl)
                  (try simp only [Act.put, List.setIfInBounds_toArray, List.set_cons_zero, List.set_cons_succ])
                  refine takeL (i := 2) (v := ?_) rfl (by kernel_rfl) (by kernel_rfl) (by kernel_rfl) (fun _ _ _ h => h) (Or.inl ⟨by rfl, ?_⟩) hHeld ?_
                  rotate_left
                  · intro w hSw; (try dsimp only at hSw); go_simp; (try with_reducible rfl)
                  (try simp only [Act.put, List.setIfInBounds_toArray, List.set_cons_zero, List.set_cons_succ])
                  refine takeL (i := 3) (v := ?_) rfl (by kernel_rfl) (by kernel_rfl) (by kernel_rfl) (fun _ _ _ h => h) (Or.inl ⟨by rfl, ?_⟩) hHeld ?_
                  rotate_left
                  · intro w hSw; (try dsimp only at hSw); go_simp; (try with_reducible rfl)
                  (try simp only [Act.put, List.setIfInBounds_toArray, List.set_cons_zero, List.set_cons_succ])
                  refine takeL (i := 4) (v := ?_) rfl (by kernel_rfl) (by kernel_rfl) (by kernel_rfl) (fun _ _ _ h => h) (Or.inl ⟨by rfl, ?_⟩) hHeld ?_
                  rotate_left
                  · intro w hSw; (try dsimp only at hSw); go_simp; (try with_reducible rfl)
                  (try simp only [Act.put, List.setIfInBounds_toArray, List.set_cons_zero, List.set_cons_succ])
                  refine takeL (i := 5) (v := ?_) rfl (by kernel_rfl) (by kernel_rfl) (by kernel_rfl) (fun _ _ _ h => h) (Or.inl ⟨by rfl, ?_⟩) hHeld ?_
                  rotate_left
                  · intro w hSw; (try dsimp only at hSw); go_simp; (try with_reducible rfl)
                  (try simp only [Act.put, List.setIfInBounds_toArray, List.set_cons_zero, List.set_cons_succ])
                  refine takeL (i := 6) (v := ?_) rfl (by kernel_rfl) (by kernel_rfl) (by kernel_rfl) (fun _ _ _ h => h) (Or.inl ⟨by rfl, ?_⟩) hHeld ?_
                  rotate_left
                  · intro w hSw; (try dsimp only at hSw); go_simp; (try with_reducible rfl)
                  (try simp only [Act.put, List.setIfInBounds_toArray, List.set_cons_zero, List.set_cons_succ])
                  refine takeL (i := 7) (v := ?_) rfl (by kernel_rfl) (by kernel_rfl) (by kernel_rfl) (fun _ _ _ h => h) (Or.inl ⟨by rfl, ?_⟩) hHeld ?_
                  rotate_left
                  · intro w hSw; (try dsimp only at hSw); go_simp; (try with_reducible rfl)
                  (try simp only [Act.put, List.setIfInBounds_toArray, List.set_cons_zero, List.set_cons_succ])
                  refine takeL (i := 8) (v := ?_) rfl (by kernel_rfl) (by kernel_rfl) (by kernel_rfl) (fun _ _ _ h => h) (Or.inl ⟨by rfl, ?_⟩) hHeld ?_
                  rotate_left
                  · intro w hSw; (try dsimp only at hSw); go_simp; (try with_reducible rfl)
                  (try simp only [Act.put, List.setIfInBounds_toArray, List.set_cons_zero, List.set_cons_succ])
                  refine takeL (i := 9) (v := ?_) rfl (by kernel_rfl) (by kernel_rfl) (by kernel_rfl) (fun _ _ _ h => h) (Or.inl ⟨by rfl, ?_⟩) hHeld ?_
                  rotate_left
                  · intro w hSw; (try dsimp only at hSw); go_simp; (try with_reducible rfl)
                  (try simp only [Act.put, List.setIfInBounds_toArray, List.set_cons_zero, List.set_cons_succ])
                  refine takeL (i := 10) (v := ?_) rfl (by kernel_rfl) (by kernel_rfl) (by kernel_rfl) (fun _ _ _ h => h) (Or.inl ⟨by rfl, ?_⟩) hHeld ?_
                  rotate_left
                  · intro w hSw; (try dsimp only at hSw); go_simp; (try with_reducible rfl)
                  (try simp only [Act.put, List.setIfInBounds_toArray, List.set_cons_zero, List.set_cons_succ])
                  refine takeL (i := 11) (v := ?_) rfl (by kernel_rfl) (by kernel_rfl) (by kernel_rfl) (fun _ _ _ h => h) (Or.inl ⟨by rfl, ?_⟩) hHeld ?_
                  rotate_left
                  · intro w hSw; (try dsimp only at hSw); go_simp; (try with_reducible rfl)
                  (try simp only [Act.put, List.setIfInBounds_toArray, List.set_cons_zero, List.set_cons_succ])
                  refine takeL (i := 12) (v := ?_) rfl (by kernel_rfl) (by kernel_rfl) (by kernel_rfl) (fun _ _ _ h => h) (Or.inl ⟨by rfl, ?_⟩) hHeld ?_
                  rotate_left
                  · intro w hSw; (try dsimp only at hSw); go_simp; (try with_reducible rfl)
                  (try simp only [Act.put, List.setIfInBounds_toArray, List.set_cons_zero, List.set_cons_succ])
                  refine takeL (i := 13) (v := ?_) rfl (by kernel_rfl) (by kernel_rfl) (by kernel_rfl) (fun _ _ _ h => h) (Or.inl ⟨by rfl, ?_⟩) hHeld ?_
                  rotate_left
                  · intro w hSw; (try dsimp only at hSw); go_simp; (try with_reducible rfl)
                  (try simp only [Act.put, List.setIfInBounds_toArray, List.set_cons_zero, List.set_cons_succ])
                  refine takeL (i := 14) (v := ?_) rfl (by kernel_rfl) (by kernel_rfl) (by kernel_rfl) (fun _ _ _ h => h) (Or.inl ⟨by rfl, ?_⟩) hHeld ?_
                  rotate_left
                  · intro w hSw; (try dsimp only at hSw); go_simp; (try with_reducible rfl)
                  (try simp only [Act.put, List.setIfInBounds_toArray, List.set_cons_zero, List.set_cons_succ])
                  refine takeL (i := 15) (v := ?_) rfl (by kernel_rfl) (by kernel_rfl) (by kernel_rfl) (fun _ _ _ h => h) (Or.inl ⟨by rfl, ?_⟩) hHeld ?_
                  rotate_left
                  · intro w hSw; (try dsimp only at hSw); go_simp; (try with_reducible rfl)
                  (try simp only [Act.put, List.setIfInBounds_toArray, List.set_cons_zero, List.set_cons_succ])
                  refine takeL (i := 16) (v := ?_) rfl (by kernel_rfl) (by kernel_rfl) (by kernel_rfl) (fun _ _ _ h => h) (Or.inl ⟨by rfl, ?_⟩) hHeld ?_
                  rotate_left
                  · intro w hSw; (try dsimp only at hSw); go_simp; (try with_reducible rfl)
                  (try simp only [Act.put, List.setIfInBounds_toArray, List.set_cons_zero, List.set_cons_succ])
                  refine takeL (i := 17) (v := ?_) rfl (by kernel_rfl) (by kernel_rfl) (by kernel_rfl) (fun _ _ _ h => h) (Or.inl ⟨by rfl, ?_⟩) hHeld ?_
                  rotate_left
                  · intro w hSw; (try dsimp only at hSw); go_simp; (try with_reducible rfl)
                  (try simp only [Act.put, List.setIfInBounds_toArray, List.set_cons_zero, List.set_cons_succ])
                  refine takeL (i := 18) (v := ?_) rfl (by kernel_rfl) (by kernel_rfl) (by kernel_rfl) (fun _ _ _ h => h) (Or.inl ⟨by rfl, ?_⟩) hHeld ?_
                  rotate_left
                  · intro w hSw; (try dsimp only at hSw); go_simp; (try with_reducible rfl)
                  (try simp only [Act.put, List.setIfInBounds_toArray, List.set_cons_zero, List.set_cons_succ])
                  refine takeL (i := 19) (v := ?_) rfl (by kernel_rfl) (by kernel_rfl) (by kernel_rfl) (fun _ _ _ h => h) (Or.inl ⟨by rfl, ?_⟩) hHeld ?_
                  rotate_left
                  · intro w hSw; (try dsimp only at hSw); go_simp; (try with_reducible rfl)
                  (try simp only [Act.put, List.setIfInBounds_toArray, List.set_cons_zero, List.set_cons_succ])
                  refine takeL (i := 20) (v := ?_) rfl (by kernel_rfl) (by kernel_rfl) (by kernel_rfl) (fun _ _ _ h => h) (Or.inl ⟨by rfl, ?_⟩) hHeld ?_
                  rotate_left
                  · intro w hSw; (try dsimp only at hSw); go_simp; (try with_reducible rfl)
                  (try simp only [Act.put, List.setIfInBounds_toArray, List.set_cons_zero, List.set_cons_succ])
                  refine takeL (i := 21) (v := ?_) rfl (by kernel_rfl) (by kernel_rfl) (by kernel_rfl) (fun _ _ _ h => h) (Or.inl ⟨by rfl, ?_⟩) hHeld ?_
                  rotate_left
                  · intro w hSw; (try dsimp only at hSw); go_simp; (try with_reducible rfl)
                  (try simp only [Act.put, List.setIfInBounds_toArray, List.set_cons_zero, List.set_cons_succ])
                  refine takeL (i := 22) (v := ?_) rfl (by kernel_rfl) (by kernel_rfl) (by kernel_rfl) (fun _ _ _ h => h) (Or.inl ⟨by rfl, ?_⟩) hHeld ?_
                  rotate_left
                  · intro w hSw; (try dsimp only at hSw); go_simp; (try with_reducible rfl)
                  (try simp only [Act.put, List.setIfInBounds_toArray, List.set_cons_zero, List.set_cons_succ])
                  refine takeL (i := 23) (v := ?_) rfl (by kernel_rfl) (by kernel_rfl) (by kernel_rfl) (fun _ _ _ h => h) (Or.inl ⟨by rfl, ?_⟩) hHeld ?_
                  rotate_left
                  · intro w hSw; (try dsimp only at hSw); go_simp; (try with_reducible rfl)
                  (try simp only [Act.put, List.setIfInBounds_toArray, List.set_cons_zero, List.set_cons_succ])
                  refine takeL (i := 24) (v := ?_) rfl (by kernel_rfl) (by kernel_rfl) (by kernel_rfl) (fun _ _ _ h => h) (Or.inl ⟨by rfl, ?_⟩) hHeld ?_
                  rotate_left
                  · intro w hSw; (try dsimp only at hSw); go_simp; (try with_reducible rfl)
                  (try simp only [Act.put, List.setIfInBounds_toArray, List.set_cons_zero, List.set_cons_succ])
                  refine takeL (i := 25) (v := undef) rfl (by kernel_rfl) (by kernel_rfl) (by kernel_rfl) (fun _ _ _ h => h) (Or.inr ⟨by rfl, rfl⟩) hHeld ?_
                  (try simp only [Act.put, List.setIfInBounds_toArray, List.set_cons_zero, List.set_cons_succ])
                  refine takeL (i := 26) (v := undef) rfl (by kernel_rfl) (by kernel_rfl) (by kernel_rfl) (fun _ _ _ h => h) (Or.inr ⟨by rfl, rfl⟩) hHeld ?_
                  (try simp only [Act.put, List.setIfInBounds_toArray, List.set_cons_zero, List.set_cons_succ])
                  refine takeL (i := 27) (v := undef) rfl (by kernel_rfl) (by kernel_rfl) (by kernel_rfl) (fun _ _ _ h => h) (Or.inr ⟨by rfl, rfl⟩) hHeld ?_
                  (try simp only [Act.put, List.setIfInBounds_toArray, List.set_cons_zero, List.set_cons_succ])
                  refine takeL (i := 28) (v := undef) rfl (by kernel_rfl) (by kernel_rfl) (by kernel_rfl) (fun _ _ _ h => h) (Or.inr ⟨by rfl, rfl⟩) hHeld ?_
                  (try simp only [Act.put, List.setIfInBounds_toArray, List.set_cons_zero, List.set_cons_succ])
                  refine takeL (i := 29) (v := undef) rfl (by kernel_rfl) (by kernel_rfl) (by kernel_rfl) (fun _ _ _ h => h) (Or.inr ⟨by rfl, rfl⟩) hHeld ?_
                  (try simp only [Act.put, List.setIfInBounds_toArray, List.set_cons_zero, List.set_cons_succ])
                  refine takeL (i := 30) (v := undef) rfl (by kernel_rfl) (by kernel_rfl) (by kernel_rfl) (fun _ _ _ h => h) (Or.inr ⟨by rfl, rfl⟩) hHeld ?_
                  (try simp only [Act.put, List.setIfInBounds_toArray, List.set_cons_zero, List.set_cons_succ])
                  refine takeL (i := 31) (v := undef) rfl (by kernel_rfl) (by kernel_rfl) (by kernel_rfl) (fun _ _ _ h => h) (Or.inr ⟨by rfl, rfl⟩) hHeld ?_
                  (try simp only [Act.put, List.setIfInBounds_toArray, List.set_cons_zero, List.set_cons_succ])
                  refine takeL (i := 32) (v := undef) rfl (by kernel_rfl) (by kernel_rfl) (by kernel_rfl) (fun _ _ _ h => h) (Or.inr ⟨by rfl, rfl⟩) hHeld ?_
                  (try simp only [Act.put, List.setIfInBounds_toArray, List.set_cons_zero, List.set_cons_succ])
                  refine takeL (i := 33) (v := undef) rfl (by kernel_rfl) (by kernel_rfl) (by kernel_rfl) (fun _ _ _ h => h) (Or.inr ⟨by rfl, rfl⟩) hHeld ?_
                  (try simp only [Act.put, List.setIfInBounds_toArray, List.set_cons_zero, List.set_cons_succ])
                  refine takeL (i := 34) (v := undef) rfl (by kernel_rfl) (by kernel_rfl) (by kernel_rfl) (fun _ _ _ h => h) (Or.inr ⟨by rfl, rfl⟩) hHeld ?_
                  (try simp only [Act.put, List.setIfInBounds_toArray, List.set_cons_zero, List.set_cons_succ])
                  refine takeL (i := 35) (v := ?_) rfl (by kernel_rfl) (by kernel_rfl) (by kernel_rfl) (fun _ _ _ h => h) (Or.inl ⟨by rfl, ?_⟩) hHeld ?_
                  rotate_left
                  · intro w hSw; (try dsimp only at hSw); go_simp; (try with_reducible rfl)
                  (try simp only [Act.put, List.setIfInBounds_toArray, List.set_cons_zero, List.set_cons_succ])
                  refine takeL (i := 36) (v := ?_) rfl (by kernel_rfl) (by kernel_rfl) (by kernel_rfl) (fun _ _ _ h => h) (Or.inl ⟨by rfl, ?_⟩) hHeld ?_
                  rotate_left
                  · intro w hSw; (try dsimp only at hSw); go_simp; (try with_reducible rfl)
                  (try simp only [Act.put, List.setIfInBounds_toArray, List.set_cons_zero, List.set_cons_succ])
                  refine takeL (i := 37) (v := ?_) rfl (by kernel_rfl) (by kernel_rfl) (by kernel_rfl) (fun _ _ _ h => h) (Or.inl ⟨by rfl, ?_⟩) hHeld ?_
                  rotate_left
                  · intro w hSw; (try dsimp only at hSw); go_simp; (try with_reducible rfl)
                  (try simp only [Act.put, List.setIfInBounds_toArray, List.set_cons_zero, List.set_cons_succ])
                  refine wpAnyH_done (by kernel_rfl) ?_ _
                  obtain ⟨ad, hrest, HRE⟩ := rest_run (k := k) hm.out hd hk (HB.out _ HBW.out)
                  have hfst : ∀ W : World, (Instr.slice 25 (.slice (some ⟨bb, bo, none⟩) m d) none (some (.int .i64 (k : Int))) none).run Try.prog W = .ok (.slice (some ⟨bb, bo, none⟩) k d) W := head_run hd hk
                  have HTK : Hid (∀ W, Below wr.heap.size wr W → ∀ j u, ((t.2.2.take k).flatMap cChange)[j]? = some u → W.cell? ((⟨bb, bo, none⟩ : Addr).add j) = some u) := fun W hW => (((HB.out _ HBW.out).takeC k).below hW).newsC
                  have HTL : Hid (((t.2.2.take k).flatMap cChange).length = k * 3) := by unfold Hid; rw [recsC_len, List.length_take, hm.out]; omega
                  have HDL : Hid (((t.2.2.drop k).flatMap cChange).length = (m - k) * 3) := by unfold Hid; rw [recsC_len, List.length_drop, hm.out]; (try rfl)
                  have HI : Hid (∃ i0 : TypeInfo, Try.prog.info? 53 = some i0 ∧ i0.zero = some (.agg #[.int .i64 0, .int .i64 0, .int .i64 0]) ∧ i0.size = 3 ∧ i0.bytes = 24) := info_parts info53
                  clear HSO HNE HOK hHeld
                  go_wp2_with fail
                  refine (OW.out wr.drew (Below.drew HBW.out) p0 p1 p2).mono ?_
                  rintro e w7 ⟨⟨g, cg, g2, cq, rfl, HOWN⟩, hb7⟩
                  have HBZ7 : Hid (Below wz.heap.size wz w7) := (Below.drew HBR.out).trans (hb7.mono HBR.out.size)
                  have HB7 : Hid (Below w.heap.size w w7) := BL.out.trans (HBZ7.out.mono BL.out.size)
                  have HW7 : Hid (Below wr.heap.size wr w7) := (Below.refl _ _).drew.trans hb7
                  have HZ7 : Hid (w.heap.size + 1 + 1 < w7.heap.size) := by have := HBZ7.out.size; rw [BZ.out] at this; exact this
                  clear p0 p1 p2 e0 e1 e2 d0 d1 d2 f0 f1 f2 hb7 OW
                  obtain ⟨⟨p0, p1, p2⟩, ⟨e0, e1, e2⟩, ⟨d0, d1, d2⟩, f0, f1, f2⟩ := HF.out _ HBZ7.out
                  have hz1 : w.heap.size < w7.heap.size := by have := HZ7.out; omega
                  have hz2 : w.heap.size + 1 < w7.heap.size := by have := HZ7.out; omega
                  have hz3 : w.heap.size + 1 + 1 < w7.heap.size := HZ7.out
                  have hst7 : wr.heap.size ≤ w7.heap.size := HW7.out.size
                  have hsz7 : wz.heap.size ≤ w7.heap.size := HBZ7.out.size
                  have HW8 : Hid ((w7.alloc (.cells #[.int .i64 t.1, .slice (some ⟨g, 0, none⟩) n cg, .slice (some ⟨g2, 0, none⟩) m cq] 27)).heap.size = w7.heap.size + 1) := by unfold Hid; simp
                  have HMADE : Hid (((w7.alloc (.cells #[.int .i64 t.1, .slice (some ⟨g, 0, none⟩) n cg, .slice (some ⟨g2, 0, none⟩) m cq] 27)).alloc (.cells #[] 53)).ownsRow (w7.heap.size + 1) 53 3 (.slice (some ⟨w7.heap.size + 1, 0, none⟩) 0 0) 0 []) := by
                    have h := World.ownsRow_made (base := w7.heap.size + 1) (e := 53) (size := 3) (w7.alloc (.cells #[.int .i64 t.1, .slice (some ⟨g, 0, none⟩) n cg, .slice (some ⟨g2, 0, none⟩) m cq] 27)) #[] 0 (by rw [HW8.out]; exact Nat.le_refl _) (by unfold maxLen; omega) rfl
                    rw [HW8.out] at h
                    exact h
                  have HZC : Hid (∀ W, Below (w7.heap.size + 1) (w7.alloc (.cells #[.int .i64 t.1, .slice (some ⟨g, 0, none⟩) n cg, .slice (some ⟨g2, 0, none⟩) m cq] 27)) W → (W.cell? ⟨w7.heap.size, 0, none⟩ = some (.int .i64 t.1) ∧ W.cell? ⟨w7.heap.size, 1, none⟩ = some (.slice (some ⟨g, 0, none⟩) n cg) ∧ W.cell? ⟨w7.heap.size, 2, none⟩ = some (.slice (some ⟨g2, 0, none⟩) m cq)) ∧ W.frozen? ⟨w7.heap.size, 2, none⟩ = false) := fun W h =>
                    ⟨⟨(h.cell (p := ⟨w7.heap.size, 0, none⟩) (Nat.lt_succ_self _)).trans (by simp [go_sem]), (h.cell (p := ⟨w7.heap.size, 1, none⟩) (Nat.lt_succ_self _)).trans (by simp [go_sem]), (h.cell (p := ⟨w7.heap.size, 2, none⟩) (Nat.lt_succ_self _)).trans (by simp [go_sem])⟩, (h.frozen (p := ⟨w7.heap.size, 2, none⟩) (Nat.lt_succ_self _)).trans (by simp [go_sem])⟩
                  have HBW7 : Hid (Below wz.heap.size wz (w7.alloc (.cells #[.int .i64 t.1, .slice (some ⟨g, 0, none⟩) n cg, .slice (some ⟨g2, 0, none⟩) m cq] 27))) := HBZ7.out.alloc hsz7 _
                  have HRW7 : Hid (Below wr.heap.size wr (w7.alloc (.cells #[.int .i64 t.1, .slice (some ⟨g, 0, none⟩) n cg, .slice (some ⟨g2, 0, none⟩) m cq] 27))) := HW7.out.alloc hst7 _
                  go_wp2_with (at_builtin; refine wpList_append_clone _ rfl _ _ 25 rfl (w7.heap.size + 1) 53 HI.out.choose (.agg #[.int .i64 0, .int .i64 0, .int .i64 0]) 3 24 Try.underlying25 HI.out.choose_spec.1 HI.out.choose_spec.2.1 HI.out.choose_spec.2.2.1 HI.out.choose_spec.2.2.2 rfl (by decide) (w7.heap.size + 1) rfl HMADE.out ⟨bb, bo, none⟩ k d _ rfl HTL.out (HTK.out _ (HRW7.out.alloc (by rw [HW8.out]; omega) _)) (recsC_one _) (by unfold maxLen; omega) (by omega) (by simp) ?_)
                  intro g8 cap8 w8 hown8 hgrow8 hat8
                  have HB8 : Hid (Below (w7.heap.size + 1) (w7.alloc (.cells #[.int .i64 t.1, .slice (some ⟨g, 0, none⟩) n cg, .slice (some ⟨g2, 0, none⟩) m cq] 27)) w8) := ((Below.refl _ _).alloc (by rw [HW8.out]; exact Nat.le_refl _) _ : Below (w7.heap.size + 1) (w7.alloc (.cells #[.int .i64 t.1, .slice (some ⟨g, 0, none⟩) n cg, .slice (some ⟨g2, 0, none⟩) m cq] 27)) ((w7.alloc (.cells #[.int .i64 t.1, .slice (some ⟨g, 0, none⟩) n cg, .slice (some ⟨g2, 0, none⟩) m cq] 27)).alloc (.cells #[] 53))).grown hgrow8 (by simp) (fun q hq => by simp at hq; omega)
                  have HBZ8 : Hid (Below wz.heap.size wz w8) := HBW7.out.trans (HB8.out.mono (by omega))
                  have HS8 : Hid (w7.heap.size + 1 ≤ w8.heap.size) := by have h := HB8.out.size; rw [HW8.out] at h; exact h
                  have HO8 := Lib.hid hown8
                  clear p0 p1 p2 e0 e1 e2 d0 d1 d2 f0 f1 f2 hown8 hgrow8 hat8
                  obtain ⟨⟨p0, p1, p2⟩, ⟨e0, e1, e2⟩, ⟨d0, d1, d2⟩, f0, f1, f2⟩ := HF.out _ HBZ8.out
                  have hs8 : w7.heap.size + 1 ≤ w8.heap.size := HS8.out
                  go_wp2_with (at_builtin; refine wpList_append_lies _ rfl _ _ 25 rfl (w7.heap.size + 1) 53 HI.out.choose (.agg #[.int .i64 0, .int .i64 0, .int .i64 0]) 3 24 Try.underlying25 HI.out.choose_spec.1 HI.out.choose_spec.2.1 HI.out.choose_spec.2.2.1 HI.out.choose_spec.2.2.2 rfl (by decide) (.slice (some ⟨g8, 0, none⟩) k cap8) k _ rfl (HO8.out.alloc _) ⟨w8.heap.size, 0, none⟩ 1 1 [.int .i64 c1, .int .i64 c2, .int .i64 c3] rfl rfl (World.news_of_block (heap_alloc_new _ _)) (by intro u hu; simp at hu; rcases hu with rfl | rfl | rfl <;> rfl) (by omega) (by unfold maxLen; omega) (by omega) (by simp; omega) (w8.heap.size + 1) (by simp) ?_)
                  intro g9 cap9 w9 hown9 hgrow9 hat9 hlt9
                  have HB9 : Hid (Below (w7.heap.size + 1) (w7.alloc (.cells #[.int .i64 t.1, .slice (some ⟨g, 0, none⟩) n cg, .slice (some ⟨g2, 0, none⟩) m cq] 27)) w9) := (HB8.out.alloc hs8 _).grown hgrow9 (by simp; omega) (fun q hq => (HO8.out.lt q hq).1)
                  have HBZ9 : Hid (Below wz.heap.size wz w9) := HBW7.out.trans (HB9.out.mono (by omega))
                  have HRW9 : Hid (Below wr.heap.size wr w9) := HRW7.out.trans (HB9.out.mono (by omega))
                  have HS9 : Hid (w7.heap.size + 1 ≤ w9.heap.size) := by have h := HB9.out.size; rw [HW8.out] at h; exact h
                  have HO9 := Lib.hid hown9
                  clear p0 p1 p2 e0 e1 e2 d0 d1 d2 f0 f1 f2 hown9 hgrow9 hat9
                  obtain ⟨⟨p0, p1, p2⟩, ⟨e0, e1, e2⟩, ⟨d0, d1, d2⟩, f0, f1, f2⟩ := HF.out _ HBZ9.out
                  go_wp2_with (at_builtin; refine wpList_append_more _ rfl _ _ 25 rfl (w7.heap.size + 1) 53 HI.out.choose (.agg #[.int .i64 0, .int .i64 0, .int .i64 0]) 3 24 Try.underlying25 HI.out.choose_spec.1 HI.out.choose_spec.2.1 HI.out.choose_spec.2.2.1 HI.out.choose_spec.2.2.2 rfl (by decide) (.slice (some ⟨g9, 0, none⟩) (k + 1) cap9) (k + 1) _ rfl HO9.out (by omega) ad (m - k) (d - k) _ rfl HDL.out (HRE.out _ HRW9.out) (recsC_one _) (by unfold maxLen; omega) (by omega) HS9.out ?_)
                  intro g5 cap5 w5 hown5 hgrow5 hat5
                  have HB5 : Hid (Below (w7.heap.size + 1) (w7.alloc (.cells #[.int .i64 t.1, .slice (some ⟨g, 0, none⟩) n cg, .slice (some ⟨g2, 0, none⟩) m cq] 27)) w5) := HB9.out.grown hgrow5 HS9.out (fun q hq => (HO9.out.lt q hq).1)
                  have HBZ5 : Hid (Below wz.heap.size wz w5) := HBW7.out.trans (HB5.out.mono (by omega))
                  have HS5 : Hid (w7.heap.size + 1 ≤ w5.heap.size) := by have h := HB5.out.size; rw [HW8.out] at h; exact h
                  have HR5 : Hid (Below w7.heap.size w7 w5) := Below.trans (b := (w7.alloc (.cells #[.int .i64 t.1, .slice (some ⟨g, 0, none⟩) n cg, .slice (some ⟨g2, 0, none⟩) m cq] 27))) ((Below.refl _ _).alloc (Nat.le_refl _) _) (HB5.out.mono (by omega))
                  have HO5 := Lib.hid hown5
                  have HB6 : Hid (Below w.heap.size w w5) := BL.out.trans (HBZ5.out.mono BL.out.size)
                  clear p0 p1 p2 e0 e1 e2 d0 d1 d2 f0 f1 f2 hown5 hgrow5 hat5
                  obtain ⟨⟨p0, p1, p2⟩, ⟨e0, e1, e2⟩, ⟨d0, d1, d2⟩, f0, f1, f2⟩ := HF.out _ HBZ5.out
                  obtain ⟨⟨z0, z1, z2⟩, z3⟩ := HZC.out _ HB5.out
                  have hs5 : w7.heap.size + 1 ≤ w5.heap.size := HS5.out
                  have hd0 : w7.heap.size ≠ w.heap.size + 1 + 1 := by omega
                  have hd1 : w.heap.size + 1 + 1 ≠ w7.heap.size := by omega
                  go_wp2_with fail
                  have R0 := HOWN.out.below HR5.out
                  have hg7 : g < w7.heap.size := (R0.2 g rfl).2
                  have hgl : wr.drew.heap.size ≤ g := (R0.2 g rfl).1
                  have hwr1 : wr.drew.heap.size = wr.heap.size := rfl
                  have hwz1 : wz.heap.size ≤ wr.heap.size := HBR.out.size
                  have hwz2 : wz.heap.size = w.heap.size + 1 + 1 + 1 := BZ.out
                  have R2 : Row (w7.heap.size + 1) w5.heap.size 53 3 (.slice (some ⟨g5, 0, none⟩) (k + 1 + (m - k)) cap5) (k + 1 + (m - k)) ((t.2.2.take k ++ (c1, c2, c3) :: t.2.2.drop k).flatMap cChange) w5 := by
                    have h := Row.of HO5.out
                    simpa [cChange] using h
                  have hg5 : w7.heap.size + 1 ≤ g5 := (R2.2 g5 rfl).1
                  have hc1 : (t.2.2.take k ++ (c1, c2, c3) :: t.2.2.drop k).length = k + 1 + (m - k) := by rw [List.length_append, List.length_cons, List.length_take, List.length_drop, hm.out]; omega
                  have R3 := (row_setCell (row_setCell (row_setCell (row_setCell R2 (b := w7.heap.size) (o := 2) (by omega) (.slice (some ⟨g5, 0, none⟩) (k + 1 + (m - k)) cap5)) (b := w.heap.size + 1 + 1) (o := 0) (by omega) (.int .i64 t.1)) (b := w.heap.size + 1 + 1) (o := 1) (by omega) (.slice (some ⟨g, 0, none⟩) n cg)) (b := w.heap.size + 1 + 1) (o := 2) (by omega) (.slice (some ⟨g5, 0, none⟩) (k + 1 + (m - k)) cap5)).widen (lo' := w.heap.size) (by omega) (Nat.le_refl _)
                  have R4 := (row_setCell (row_setCell (row_setCell (row_setCell_hi R0 (b := w7.heap.size) (o := 2) (Nat.le_refl _) (.slice (some ⟨g5, 0, none⟩) (k + 1 + (m - k)) cap5)) (b := w.heap.size + 1 + 1) (o := 0) (by omega) (.int .i64 t.1)) (b := w.heap.size + 1 + 1) (o := 1) (by omega) (.slice (some ⟨g, 0, none⟩) n cg)) (b := w.heap.size + 1 + 1) (o := 2) (by omega) (.slice (some ⟨g5, 0, none⟩) (k + 1 + (m - k)) cap5)).widen (lo' := w.heap.size) (by omega) (Nat.le_refl _)
                  exact bodyPost_ret (v := .tuple #[.agg #[.int .i64 t.1, .slice (some ⟨g, 0, none⟩) n cg, .slice (some ⟨g5, 0, none⟩) (k + 1 + (m - k)) cap5], .int .i64 0]) (by simp [results, Try.results25, go_sem, d0, d1, d2]) rfl (givesAZ_of (t := (t.1, t.2.1, t.2.2.take k ++ (c1, c2, c3) :: t.2.2.drop k)) HR.out (by repeat (first | exact HB6.out | refine Below.alloc ?_ (by first | omega | (simp; done) | (simp; omega)) _ | refine Below.setCell ?_ (by first | omega | (simp; done) | (simp; omega)) _)) hn.out hc1 R4.1 R3.1 (by omega))
                · have HN := Lib.hid (HGO.out hl)
                  clear HGO HST hl
                  go_wp2
                  have g1x : ¬ c1 < u1 := by omega
                  refine wp_region_held_drew (S := (fun w' => Hid (Below wz.heap.size wz w') ∧ w'.cell? ⟨w.heap.size, 2, none⟩ = some (.slice (some ⟨bb, bo, none⟩) m d) ∧ w'.cell? ⟨w.heap.size + 1, 0, none⟩ = some (.int .i64 c1) ∧ w'.cell? ⟨w.heap.size + 1, 1, none⟩ = some (.int .i64 c2) ∧ w'.cell? ⟨bb, bo + (k - 1) * 3, none⟩ = some (.int .i64 u1) ∧ w'.cell? ⟨bb, bo + (k - 1) * 3 + 1, none⟩ = some (.int .i64 u2))) (by kernel_rfl) ?_ (fun hHeld => ?_)
                  · (try dsimp only); exact ⟨Lib.hid (Below.drew (by repeat (first | exact HBR.out | refine Below.alloc ?_ (by first | omega | (simp; done) | (simp; omega)) _ | refine Below.setCell ?_ (by first | omega | (simp; done) | (simp; omega)) _))), p2, e0, e1, x0, x1⟩
                  refine takeL (i := 0) (v := ?_) rfl (by kernel_rfl) (by kernel_rfl) (by kernel_rfl) (fun _ _ _ h => h) (Or.inl ⟨by rfl, ?_⟩) hHeld ?_
                  rotate_left
                  · intro w hSw; (try dsimp only at hSw); go_simp; (try with_reducible rfl)
                  (try simp only [Act.put, List.setIfInBounds_toArray, List.set_cons_zero, List.set_cons_succ])
                  refine takeL (i := 1) (v := ?_) rfl (by kernel_rfl) (by kernel_rfl) (by kernel_rfl) (fun _ _ _ h => h) (Or.inl ⟨by rfl, ?_⟩) hHeld ?_
                  rotate_left
                  · intro w hSw; (try dsimp only at hSw); go_simp; (try with_reducible rfl)
                  (try simp only [Act.put, List.setIfInBounds_toArray, List.set_cons_zero, List.set_cons_succ])
                  refine takeL (i := 2) (v := ?_) rfl (by kernel_rfl) (by kernel_rfl) (by kernel_rfl) (fun _ _ _ h => h) (Or.inl ⟨by rfl, ?_⟩) hHeld ?_
                  rotate_left
                  · intro w hSw; (try dsimp only at hSw); go_simp; (try with_reducible rfl)
                  (try simp only [Act.put, List.setIfInBounds_toArray, List.set_cons_zero, List.set_cons_succ])
                  refine takeL (i := 3) (v := ?_) rfl (by kernel_rfl) (by kernel_rfl) (by kernel_rfl) (fun _ _ _ h => h) (Or.inl ⟨by rfl, ?_⟩) hHeld ?_
                  rotate_left
                  · intro w hSw; (try dsimp only at hSw); go_simp; (try with_reducible rfl)
                  (try simp only [Act.put, List.setIfInBounds_toArray, List.set_cons_zero, List.set_cons_succ])
                  refine takeL (i := 4) (v := ?_) rfl (by kernel_rfl) (by kernel_rfl) (by kernel_rfl) (fun _ _ _ h => h) (Or.inl ⟨by rfl, ?_⟩) hHeld ?_
                  rotate_left
                  · intro w hSw; (try dsimp only at hSw); go_simp; (try with_reducible rfl)
                  (try simp only [Act.put, List.setIfInBounds_toArray, List.set_cons_zero, List.set_cons_succ])
                  refine takeL (i := 5) (v := ?_) rfl (by kernel_rfl) (by kernel_rfl) (by kernel_rfl) (fun _ _ _ h => h) (Or.inl ⟨by rfl, ?_⟩) hHeld ?_
                  rotate_left
                  · intro w hSw; (try dsimp only at hSw); go_simp; (try with_reducible rfl)
                  (try simp only [Act.put, List.setIfInBounds_toArray, List.set_cons_zero, List.set_cons_succ])
                  refine takeL (i := 6) (v := ?_) rfl (by kernel_rfl) (by kernel_rfl) (by kernel_rfl) (fun _ _ _ h => h) (Or.inl ⟨by rfl, ?_⟩) hHeld ?_
                  rotate_left
                  · intro w hSw; (try dsimp only at hSw); go_simp; (try with_reducible rfl)
                  (try simp only [Act.put, List.setIfInBounds_toArray, List.set_cons_zero, List.set_cons_succ])
                  refine takeL (i := 7) (v := ?_) rfl (by kernel_rfl) (by kernel_rfl) (by kernel_rfl) (fun _ _ _ h => h) (Or.inl ⟨by rfl, ?_⟩) hHeld ?_
                  rotate_left
                  · intro w hSw; (try dsimp only at hSw); go_simp; (try with_reducible rfl)
                  (try simp only [Act.put, List.setIfInBounds_toArray, List.set_cons_zero, List.set_cons_succ])
                  refine takeL (i := 8) (v := ?_) rfl (by kernel_rfl) (by kernel_rfl) (by kernel_rfl) (fun _ _ _ h => h) (Or.inl ⟨by rfl, ?_⟩) hHeld ?_
                  rotate_left
                  · intro w hSw; (try dsimp only at hSw); go_simp; (try with_reducible rfl)
                  (try simp only [Act.put, List.setIfInBounds_toArray, List.set_cons_zero, List.set_cons_succ])
                  refine takeL (i := 9) (v := ?_) rfl (by kernel_rfl) (by kernel_rfl) (by kernel_rfl) (fun _ _ _ h => h) (Or.inl ⟨by rfl, ?_⟩) hHeld ?_
                  rotate_left
                  · intro w hSw; (try dsimp only at hSw); go_simp; (try with_reducible rfl)
                  (try simp only [Act.put, List.setIfInBounds_toArray, List.set_cons_zero, List.set_cons_succ])
                  refine takeL (i := 10) (v := ?_) rfl (by kernel_rfl) (by kernel_rfl) (by kernel_rfl) (fun _ _ _ h => h) (Or.inl ⟨by rfl, ?_⟩) hHeld ?_
                  rotate_left
                  · intro w hSw; (try dsimp only at hSw); go_simp; (try with_reducible rfl)
                  (try simp only [Act.put, List.setIfInBounds_toArray, List.set_cons_zero, List.set_cons_succ])
                  refine takeL (i := 11) (v := ?_) rfl (by kernel_rfl) (by kernel_rfl) (by kernel_rfl) (fun _ _ _ h => h) (Or.inl ⟨by rfl, ?_⟩) hHeld ?_
                  rotate_left
                  · intro w hSw; (try dsimp only at hSw); go_simp; (try with_reducible rfl)
                  (try simp only [Act.put, List.setIfInBounds_toArray, List.set_cons_zero, List.set_cons_succ])
                  refine takeL (i := 12) (v := ?_) rfl (by kernel_rfl) (by kernel_rfl) (by kernel_rfl) (fun _ _ _ h => h) (Or.inl ⟨by rfl, ?_⟩) hHeld ?_
                  rotate_left
                  · intro w hSw; (try dsimp only at hSw); go_simp; (try with_reducible rfl)
                  (try simp only [Act.put, List.setIfInBounds_toArray, List.set_cons_zero, List.set_cons_succ])
                  refine takeL (i := 13) (v := ?_) rfl (by kernel_rfl) (by kernel_rfl) (by kernel_rfl) (fun _ _ _ h => h) (Or.inl ⟨by rfl, ?_⟩) hHeld ?_
                  rotate_left
                  · intro w hSw; (try dsimp only at hSw); go_simp; (try with_reducible rfl)
                  (try simp only [Act.put, List.setIfInBounds_toArray, List.set_cons_zero, List.set_cons_succ])
                  refine takeL (i := 14) (v := ?_) rfl (by kernel_rfl) (by kernel_rfl) (by kernel_rfl) (fun _ _ _ h => h) (Or.inl ⟨by rfl, ?_⟩) hHeld ?_
                  rotate_left
                  · intro w hSw; (try dsimp only at hSw); go_simp; (try with_reducible rfl)
                  (try simp only [Act.put, List.setIfInBounds_toArray, List.set_cons_zero, List.set_cons_succ])
                  refine takeL (i := 15) (v := ?_) rfl (by kernel_rfl) (by kernel_rfl) (by kernel_rfl) (fun _ _ _ h => h) (Or.inl ⟨by rfl, ?_⟩) hHeld ?_
                  rotate_left
                  · intro w hSw; (try dsimp only at hSw); go_simp; (try with_reducible rfl)
                  (try simp only [Act.put, List.setIfInBounds_toArray, List.set_cons_zero, List.set_cons_succ])
                  refine takeL (i := 16) (v := ?_) rfl (by kernel_rfl) (by kernel_rfl) (by kernel_rfl) (fun _ _ _ h => h) (Or.inl ⟨by rfl, ?_⟩) hHeld ?_
                  rotate_left
                  · intro w hSw; (try dsimp only at hSw); go_simp; (try with_reducible rfl)
                  (try simp only [Act.put, List.setIfInBounds_toArray, List.set_cons_zero, List.set_cons_succ])
                  refine takeL (i := 17) (v := ?_) rfl (by kernel_rfl) (by kernel_rfl) (by kernel_rfl) (fun _ _ _ h => h) (Or.inl ⟨by rfl, ?_⟩) hHeld ?_
                  rotate_left
                  · intro w hSw; (try dsimp only at hSw); go_simp; (try with_reducible rfl)
                  (try simp only [Act.put, List.setIfInBounds_toArray, List.set_cons_zero, List.set_cons_succ])
                  refine takeL (i := 18) (v := ?_) rfl (by kernel_rfl) (by kernel_rfl) (by kernel_rfl) (fun _ _ _ h => h) (Or.inl ⟨by rfl, ?_⟩) hHeld ?_
                  rotate_left
                  · intro w hSw; (try dsimp only at hSw); go_simp; (try with_reducible rfl)
                  (try simp only [Act.put, List.setIfInBounds_toArray, List.set_cons_zero, List.set_cons_succ])
                  refine takeL (i := 19) (v := ?_) rfl (by kernel_rfl) (by kernel_rfl) (by kernel_rfl) (fun _ _ _ h => h) (Or.inl ⟨by rfl, ?_⟩) hHeld ?_
                  rotate_left
                  · intro w hSw; (try dsimp only at hSw); go_simp; (try with_reducible rfl)
                  (try simp only [Act.put, List.setIfInBounds_toArray, List.set_cons_zero, List.set_cons_succ])
                  refine takeL (i := 20) (v := ?_) rfl (by kernel_rfl) (by kernel_rfl) (by kernel_rfl) (fun _ _ _ h => h) (Or.inl ⟨by rfl, ?_⟩) hHeld ?_
                  rotate_left
                  · intro w hSw; (try dsimp only at hSw); go_simp; (try with_reducible rfl)
                  (try simp only [Act.put, List.setIfInBounds_toArray, List.set_cons_zero, List.set_cons_succ])
                  refine takeL (i := 21) (v := ?_) rfl (by kernel_rfl) (by kernel_rfl) (by kernel_rfl) (fun _ _ _ h => h) (Or.inl ⟨by rfl, ?_⟩) hHeld ?_
                  rotate_left
                  · intro w hSw; (try dsimp only at hSw); go_simp; (try with_reducible rfl)
                  (try simp only [Act.put, List.setIfInBounds_toArray, List.set_cons_zero, List.set_cons_succ])
                  refine takeL (i := 22) (v := ?_) rfl (by kernel_rfl) (by kernel_rfl) (by kernel_rfl) (fun _ _ _ h => h) (Or.inl ⟨by rfl, ?_⟩) hHeld ?_
                  rotate_left
                  · intro w hSw; (try dsimp only at hSw); go_simp; (try with_reducible rfl)
                  (try simp only [Act.put, List.setIfInBounds_toArray, List.set_cons_zero, List.set_cons_succ])
                  refine takeL (i := 23) (v := ?_) rfl (by kernel_rfl) (by kernel_rfl) (by kernel_rfl) (fun _ _ _ h => h) (Or.inl ⟨by rfl, ?_⟩) hHeld ?_
                  rotate_left
                  · intro w hSw; (try dsimp only at hSw); go_simp; (try with_reducible rfl)
                  (try simp only [Act.put, List.setIfInBounds_toArray, List.set_cons_zero, List.set_cons_succ])
                  refine takeL (i := 24) (v := ?_) rfl (by kernel_rfl) (by kernel_rfl) (by kernel_rfl) (fun _ _ _ h => h) (Or.inl ⟨by rfl, ?_⟩) hHeld ?_
                  rotate_left
                  · intro w hSw; (try dsimp only at hSw); go_simp; (try with_reducible rfl)
                  (try simp only [Act.put, List.setIfInBounds_toArray, List.set_cons_zero, List.set_cons_succ])
                  refine takeL (i := 25) (v := ?_) rfl (by kernel_rfl) (by kernel_rfl) (by kernel_rfl) (fun _ _ _ h => h) (Or.inl ⟨by rfl, ?_⟩) hHeld ?_
                  rotate_left
                  · intro w hSw; (try dsimp only at hSw); go_simp; (try with_reducible rfl)
                  (try simp only [Act.put, List.setIfInBounds_toArray, List.set_cons_zero, List.set_cons_succ])
                  refine takeL (i := 26) (v := ?_) rfl (by kernel_rfl) (by kernel_rfl) (by kernel_rfl) (fun _ _ _ h => h) (Or.inl ⟨by rfl, ?_⟩) hHeld ?_
                  rotate_left
                  · intro w hSw; (try dsimp only at hSw); go_simp; (try with_reducible rfl)
                  (try simp only [Act.put, List.setIfInBounds_toArray, List.set_cons_zero, List.set_cons_succ])
                  refine takeL (i := 27) (v := ?_) rfl (by kernel_rfl) (by kernel_rfl) (by kernel_rfl) (fun _ _ _ h => h) (Or.inl ⟨by rfl, ?_⟩) hHeld ?_
                  rotate_left
                  · intro w hSw; (try dsimp only at hSw); go_simp; (try with_reducible rfl)
                  (try simp only [Act.put, List.setIfInBounds_toArray, List.set_cons_zero, List.set_cons_succ])
                  refine takeL (i := 28) (v := ?_) rfl (by kernel_rfl) (by kernel_rfl) (by kernel_rfl) (fun _ _ _ h => h) (Or.inl ⟨by rfl, ?_⟩) hHeld ?_
                  rotate_left
                  · intro w hSw; (try dsimp only at hSw); go_simp; (try with_reducible rfl)
                  (try simp only [Act.put, List.setIfInBounds_toArray, List.set_cons_zero, List.set_cons_succ])
                  refine takeL (i := 29) (v := ?_) rfl (by kernel_rfl) (by kernel_rfl) (by kernel_rfl) (fun _ _ _ h => h) (Or.inl ⟨by rfl, ?_⟩) hHeld ?_
                  rotate_left
                  · intro w hSw; (try dsimp only at hSw); go_simp; (try with_reducible rfl)
                  (try simp only [Act.put, List.setIfInBounds_toArray, List.set_cons_zero, List.set_cons_succ])
                  refine takeL (i := 30) (v := ?_) rfl (by kernel_rfl) (by kernel_rfl) (by kernel_rfl) (fun _ _ _ h => h) (Or.inl ⟨by rfl, ?_⟩) hHeld ?_
                  rotate_left
                  · intro w hSw; (try dsimp only at hSw); go_simp; (try with_reducible rfl)
                  (try simp only [Act.put, List.setIfInBounds_toArray, List.set_cons_zero, List.set_cons_succ])
                  refine takeL (i := 31) (v := ?_) rfl (by kernel_rfl) (by kernel_rfl) (by kernel_rfl) (fun _ _ _ h => h) (Or.inl ⟨by rfl, ?_⟩) hHeld ?_
                  rotate_left
                  · intro w hSw; (try dsimp only at hSw); go_simp; (try with_reducible rfl)
                  (try simp only [Act.put, List.setIfInBounds_toArray, List.set_cons_zero, List.set_cons_succ])
                  refine takeL (i := 32) (v := ?_) rfl (by kernel_rfl) (by kernel_rfl) (by kernel_rfl) (fun _ _ _ h => h) (Or.inl ⟨by rfl, ?_⟩) hHeld ?_
                  rotate_left
                  · intro w hSw; (try dsimp only at hSw); go_simp; (try with_reducible rfl)
                  (try simp only [Act.put, List.setIfInBounds_toArray, List.set_cons_zero, List.set_cons_succ])
                  refine takeL (i := 33) (v := ?_) rfl (by kernel_rfl) (by kernel_rfl) (by kernel_rfl) (fun _ _ _ h => h) (Or.inl ⟨by rfl, ?_⟩) hHeld ?_
                  rotate_left
                  · intro w hSw; (try dsimp only at hSw); go_simp; (try with_reducible rfl)
                  (try simp only [Act.put, List.setIfInBounds_toArray, List.set_cons_zero, List.set_cons_succ])
                  refine takeL (i := 34) (v := ?_) rfl (by kernel_rfl) (by kernel_rfl) (by kernel_rfl) (fun _ _ _ h => h) (Or.inl ⟨by rfl, ?_⟩) hHeld ?_
                  rotate_left
                  · intro w hSw; (try dsimp only at hSw); go_simp; (try with_reducible rfl)
                  (try simp only [Act.put, List.setIfInBounds_toArray, List.set_cons_zero, List.set_cons_succ])
                  refine takeL (i := 35) (v := ?_) rfl (by kernel_rfl) (by kernel_rfl) (by kernel_rfl) (fun _ _ _ h => h) (Or.inl ⟨by rfl, ?_⟩) hHeld ?_
                  rotate_left
                  · intro w hSw; (try dsimp only at hSw); go_simp; (try with_reducible rfl)
                  (try simp only [Act.put, List.setIfInBounds_toArray, List.set_cons_zero, List.set_cons_succ])
                  refine takeL (i := 36) (v := ?_) rfl (by kernel_rfl) (by kernel_rfl) (by kernel_rfl) (fun _ _ _ h => h) (Or.inl ⟨by rfl, ?_⟩) hHeld ?_
                  rotate_left
                  · intro w hSw; (try dsimp only at hSw); go_simp; (try with_reducible rfl)
                  (try simp only [Act.put, List.setIfInBounds_toArray, List.set_cons_zero, List.set_cons_succ])
                  refine takeL (i := 37) (v := ?_) rfl (by kernel_rfl) (by kernel_rfl) (by kernel_rfl) (fun _ _ _ h => h) (Or.inl ⟨by rfl, ?_⟩) hHeld ?_
                  rotate_left
                  · intro w hSw; (try dsimp only at hSw); go_simp; (try with_reducible rfl)
                  (try simp only [Act.put, List.setIfInBounds_toArray, List.set_cons_zero, List.set_cons_succ])
                  refine wpAnyH_done (by kernel_rfl) ?_ _
                  go_wp2
                  go_roundw
                  case rel => exact ⟨k - 1, by omega, by go_num, hHeld.1, HN⟩
                  case measure => simp [intOf]; omega
                · have HR := Lib.hid (HST.out hl)
                  clear HGO HST hl
                  go_wp2
                  have g1x : ¬ c1 < u1 := by omega
                  have g3x : ¬ c2 < u2 := by omega
                  refine wp_region_held_drew (S := (fun w' => Hid (Below wz.heap.size wz w') ∧ w'.cell? ⟨w.heap.size, 2, none⟩ = some (.slice (some ⟨bb, bo, none⟩) m d) ∧ w'.cell? ⟨w.heap.size + 1, 0, none⟩ = some (.int .i64 c1) ∧ w'.cell? ⟨w.heap.size + 1, 1, none⟩ = some (.int .i64 c2) ∧ w'.cell? ⟨bb, bo + (k - 1) * 3, none⟩ = some (.int .i64 u1) ∧ w'.cell? ⟨bb, bo + (k - 1) * 3 + 1, none⟩ = some (.int .i64 u2))) (by kernel_rfl) ?_ (fun hHeld => ?_)
                  · (try dsimp only); exact ⟨Lib.hid (Below.drew (by repeat (first | exact HBR.out | refine Below.alloc ?_ (by first | omega | (simp; done) | (simp; omega)) _ | refine Below.setCell ?_ (by first | omega | (simp; done) | (simp; omega)) _))), p2, e0, e1, x0, x1⟩
                  refine takeL (i := 0) (v := ?_) rfl (by kernel_rfl) (by kernel_rfl) (by kernel_rfl) (fun _ _ _ h => h) (Or.inl ⟨by rfl, ?_⟩) hHeld ?_
                  rotate_left
                  · intro w hSw; (try dsimp only at hSw); go_simp; (try with_reducible rfl)
                  (try simp only [Act.put, List.setIfInBounds_toArray, List.set_cons_zero, List.set_cons_succ])
                  refine takeL (i := 1) (v := ?_) rfl (by kernel_rfl) (by kernel_rfl) (by kernel_rfl) (fun _ _ _ h => h) (Or.inl ⟨by rfl, ?_⟩) hHeld ?_
                  rotate_left
                  · intro w hSw; (try dsimp only at hSw); go_simp; (try with_reducible rfl)
                  (try simp only [Act.put, List.setIfInBounds_toArray, List.set_cons_zero, List.set_cons_succ])
                  refine takeL (i := 2) (v := ?_) rfl (by kernel_rfl) (by kernel_rfl) (by kernel_rfl) (fun _ _ _ h => h) (Or.inl ⟨by rfl, ?_⟩) hHeld ?_
                  rotate_left
                  · intro w hSw; (try dsimp only at hSw); go_simp; (try with_reducible rfl)
                  (try simp only [Act.put, List.setIfInBounds_toArray, List.set_cons_zero, List.set_cons_succ])
                  refine takeL (i := 3) (v := ?_) rfl (by kernel_rfl) (by kernel_rfl) (by kernel_rfl) (fun _ _ _ h => h) (Or.inl ⟨by rfl, ?_⟩) hHeld ?_
                  rotate_left
                  · intro w hSw; (try dsimp only at hSw); go_simp; (try with_reducible rfl)
                  (try simp only [Act.put, List.setIfInBounds_toArray, List.set_cons_zero, List.set_cons_succ])
                  refine takeL (i := 4) (v := ?_) rfl (by kernel_rfl) (by kernel_rfl) (by kernel_rfl) (fun _ _ _ h => h) (Or.inl ⟨by rfl, ?_⟩) hHeld ?_
                  rotate_left
                  · intro w hSw; (try dsimp only at hSw); go_simp; (try with_reducible rfl)
                  (try simp only [Act.put, List.setIfInBounds_toArray, List.set_cons_zero, List.set_cons_succ])
                  refine takeL (i := 5) (v := ?_) rfl (by kernel_rfl) (by kernel_rfl) (by kernel_rfl) (fun _ _ _ h => h) (Or.inl ⟨by rfl, ?_⟩) hHeld ?_
                  rotate_left
                  · intro w hSw; (try dsimp only at hSw); go_simp; (try with_reducible rfl)
                  (try simp only [Act.put, List.setIfInBounds_toArray, List.set_cons_zero, List.set_cons_succ])
                  refine takeL (i := 6) (v := ?_) rfl (by kernel_rfl) (by kernel_rfl) (by kernel_rfl) (fun _ _ _ h => h) (Or.inl ⟨by rfl, ?_⟩) hHeld ?_
                  rotate_left
                  · intro w hSw; (try dsimp only at hSw); go_simp; (try with_reducible rfl)
                  (try simp only [Act.put, List.setIfInBounds_toArray, List.set_cons_zero, List.set_cons_succ])
                  refine takeL (i := 7) (v := ?_) rfl (by kernel_rfl) (by kernel_rfl) (by kernel_rfl) (fun _ _ _ h => h) (Or.inl ⟨by rfl, ?_⟩) hHeld ?_
                  rotate_left
                  · intro w hSw; (try dsimp only at hSw); go_simp; (try with_reducible rfl)
                  (try simp only [Act.put, List.setIfInBounds_toArray, List.set_cons_zero, List.set_cons_succ])
                  refine takeL (i := 8) (v := ?_) rfl (by kernel_rfl) (by kernel_rfl) (by kernel_rfl) (fun _ _ _ h => h) (Or.inl ⟨by rfl, ?_⟩) hHeld ?_
                  rotate_left
                  · intro w hSw; (try dsimp only at hSw); go_simp; (try with_reducible rfl)
                  (try simp only [Act.put, List.setIfInBounds_toArray, List.set_cons_zero, List.set_cons_succ])
                  refine takeL (i := 9) (v := ?_) rfl (by kernel_rfl) (by kernel_rfl) (by kernel_rfl) (fun _ _ _ h => h) (Or.inl ⟨by rfl, ?_⟩) hHeld ?_
                  rotate_left
                  · intro w hSw; (try dsimp only at hSw); go_simp; (try with_reducible rfl)
                  (try simp only [Act.put, List.setIfInBounds_toArray, List.set_cons_zero, List.set_cons_succ])
                  refine takeL (i := 10) (v := ?_) rfl (by kernel_rfl) (by kernel_rfl) (by kernel_rfl) (fun _ _ _ h => h) (Or.inl ⟨by rfl, ?_⟩) hHeld ?_
                  rotate_left
                  · intro w hSw; (try dsimp only at hSw); go_simp; (try with_reducible rfl)
                  (try simp only [Act.put, List.setIfInBounds_toArray, List.set_cons_zero, List.set_cons_succ])
                  refine takeL (i := 11) (v := ?_) rfl (by kernel_rfl) (by kernel_rfl) (by kernel_rfl) (fun _ _ _ h => h) (Or.inl ⟨by rfl, ?_⟩) hHeld ?_
                  rotate_left
                  · intro w hSw; (try dsimp only at hSw); go_simp; (try with_reducible rfl)
                  (try simp only [Act.put, List.setIfInBounds_toArray, List.set_cons_zero, List.set_cons_succ])
                  refine takeL (i := 12) (v := ?_) rfl (by kernel_rfl) (by kernel_rfl) (by kernel_rfl) (fun _ _ _ h => h) (Or.inl ⟨by rfl, ?_⟩) hHeld ?_
                  rotate_left
                  · intro w hSw; (try dsimp only at hSw); go_simp; (try with_reducible rfl)
                  (try simp only [Act.put, List.setIfInBounds_toArray, List.set_cons_zero, List.set_cons_succ])
                  refine takeL (i := 13) (v := ?_) rfl (by kernel_rfl) (by kernel_rfl) (by kernel_rfl) (fun _ _ _ h => h) (Or.inl ⟨by rfl, ?_⟩) hHeld ?_
                  rotate_left
                  · intro w hSw; (try dsimp only at hSw); go_simp; (try with_reducible rfl)
                  (try simp only [Act.put, List.setIfInBounds_toArray, List.set_cons_zero, List.set_cons_succ])
                  refine takeL (i := 14) (v := ?_) rfl (by kernel_rfl) (by kernel_rfl) (by kernel_rfl) (fun _ _ _ h => h) (Or.inl ⟨by rfl, ?_⟩) hHeld ?_
                  rotate_left
                  · intro w hSw; (try dsimp only at hSw); go_simp; (try with_reducible rfl)
                  (try simp only [Act.put, List.setIfInBounds_toArray, List.set_cons_zero, List.set_cons_succ])
                  refine takeL (i := 15) (v := ?_) rfl (by kernel_rfl) (by kernel_rfl) (by kernel_rfl) (fun _ _ _ h => h) (Or.inl ⟨by rfl, ?_⟩) hHeld ?_
                  rotate_left
                  · intro w hSw; (try dsimp only at hSw); go_simp; (try with_reducible rfl)
                  (try simp only [Act.put, List.setIfInBounds_toArray, List.set_cons_zero, List.set_cons_succ])
                  refine takeL (i := 16) (v := ?_) rfl (by kernel_rfl) (by kernel_rfl) (by kernel_rfl) (fun _ _ _ h => h) (Or.inl ⟨by rfl, ?_⟩) hHeld ?_
                  rotate_left
                  · intro w hSw; (try dsimp only at hSw); go_simp; (try with_reducible rfl)
                  (try simp only [Act.put, List.setIfInBounds_toArray, List.set_cons_zero, List.set_cons_succ])
                  refine takeL (i := 17) (v := ?_) rfl (by kernel_rfl) (by kernel_rfl) (by kernel_rfl) (fun _ _ _ h => h) (Or.inl ⟨by rfl, ?_⟩) hHeld ?_
                  rotate_left
                  · intro w hSw; (try dsimp only at hSw); go_simp; (try with_reducible rfl)
                  (try simp only [Act.put, List.setIfInBounds_toArray, List.set_cons_zero, List.set_cons_succ])
                  refine takeL (i := 18) (v := ?_) rfl (by kernel_rfl) (by kernel_rfl) (by kernel_rfl) (fun _ _ _ h => h) (Or.inl ⟨by rfl, ?_⟩) hHeld ?_
                  rotate_left
                  · intro w hSw; (try dsimp only at hSw); go_simp; (try with_reducible rfl)
                  (try simp only [Act.put, List.setIfInBounds_toArray, List.set_cons_zero, List.set_cons_succ])
                  refine takeL (i := 19) (v := ?_) rfl (by kernel_rfl) (by kernel_rfl) (by kernel_rfl) (fun _ _ _ h => h) (Or.inl ⟨by rfl, ?_⟩) hHeld ?_
                  rotate_left
                  · intro w hSw; (try dsimp only at hSw); go_simp; (try with_reducible rfl)
                  (try simp only [Act.put, List.setIfInBounds_toArray, List.set_cons_zero, List.set_cons_succ])
                  refine takeL (i := 20) (v := ?_) rfl (by kernel_rfl) (by kernel_rfl) (by kernel_rfl) (fun _ _ _ h => h) (Or.inl ⟨by rfl, ?_⟩) hHeld ?_
                  rotate_left
                  · intro w hSw; (try dsimp only at hSw); go_simp; (try with_reducible rfl)
                  (try simp only [Act.put, List.setIfInBounds_toArray, List.set_cons_zero, List.set_cons_succ])
                  refine takeL (i := 21) (v := ?_) rfl (by kernel_rfl) (by kernel_rfl) (by kernel_rfl) (fun _ _ _ h => h) (Or.inl ⟨by rfl, ?_⟩) hHeld ?_
                  rotate_left
                  · intro w hSw; (try dsimp only at hSw); go_simp; (try with_reducible rfl)
                  (try simp only [Act.put, List.setIfInBounds_toArray, List.set_cons_zero, List.set_cons_succ])
                  refine takeL (i := 22) (v := ?_) rfl (by kernel_rfl) (by kernel_rfl) (by kernel_rfl) (fun _ _ _ h => h) (Or.inl ⟨by rfl, ?_⟩) hHeld ?_
                  rotate_left
                  · intro w hSw; (try dsimp only at hSw); go_simp; (try with_reducible rfl)
                  (try simp only [Act.put, List.setIfInBounds_toArray, List.set_cons_zero, List.set_cons_succ])
                  refine takeL (i := 23) (v := ?_) rfl (by kernel_rfl) (by kernel_rfl) (by kernel_rfl) (fun _ _ _ h => h) (Or.inl ⟨by rfl, ?_⟩) hHeld ?_
                  rotate_left
                  · intro w hSw; (try dsimp only at hSw); go_simp; (try with_reducible rfl)
                  (try simp only [Act.put, List.setIfInBounds_toArray, List.set_cons_zero, List.set_cons_succ])
                  refine takeL (i := 24) (v := ?_) rfl (by kernel_rfl) (by kernel_rfl) (by kernel_rfl) (fun _ _ _ h => h) (Or.inl ⟨by rfl, ?_⟩) hHeld ?_
                  rotate_left
                  · intro w hSw; (try dsimp only at hSw); go_simp; (try with_reducible rfl)
                  (try simp only [Act.put, List.setIfInBounds_toArray, List.set_cons_zero, List.set_cons_succ])
                  refine takeL (i := 25) (v := ?_) rfl (by kernel_rfl) (by kernel_rfl) (by kernel_rfl) (fun _ _ _ h => h) (Or.inl ⟨by rfl, ?_⟩) hHeld ?_
                  rotate_left
                  · intro w hSw; (try dsimp only at hSw); go_simp; (try with_reducible rfl)
                  (try simp only [Act.put, List.setIfInBounds_toArray, List.set_cons_zero, List.set_cons_succ])
                  refine takeL (i := 26) (v := ?_) rfl (by kernel_rfl) (by kernel_rfl) (by kernel_rfl) (fun _ _ _ h => h) (Or.inl ⟨by rfl, ?_⟩) hHeld ?_
                  rotate_left
                  · intro w hSw; (try dsimp only at hSw); go_simp; (try with_reducible rfl)
                  (try simp only [Act.put, List.setIfInBounds_toArray, List.set_cons_zero, List.set_cons_succ])
                  refine takeL (i := 27) (v := ?_) rfl (by kernel_rfl) (by kernel_rfl) (by kernel_rfl) (fun _ _ _ h => h) (Or.inl ⟨by rfl, ?_⟩) hHeld ?_
                  rotate_left
                  · intro w hSw; (try dsimp only at hSw); go_simp; (try with_reducible rfl)
                  (try simp only [Act.put, List.setIfInBounds_toArray, List.set_cons_zero, List.set_cons_succ])
                  refine takeL (i := 28) (v := ?_) rfl (by kernel_rfl) (by kernel_rfl) (by kernel_rfl) (fun _ _ _ h => h) (Or.inl ⟨by rfl, ?_⟩) hHeld ?_
                  rotate_left
                  · intro w hSw; (try dsimp only at hSw); go_simp; (try with_reducible rfl)
                  (try simp only [Act.put, List.setIfInBounds_toArray, List.set_cons_zero, List.set_cons_succ])
                  refine takeL (i := 29) (v := ?_) rfl (by kernel_rfl) (by kernel_rfl) (by kernel_rfl) (fun _ _ _ h => h) (Or.inl ⟨by rfl, ?_⟩) hHeld ?_
                  rotate_left
                  · intro w hSw; (try dsimp only at hSw); go_simp; (try with_reducible rfl)
                  (try simp only [Act.put, List.setIfInBounds_toArray, List.set_cons_zero, List.set_cons_succ])
                  refine takeL (i := 30) (v := ?_) rfl (by kernel_rfl) (by kernel_rfl) (by kernel_rfl) (fun _ _ _ h => h) (Or.inl ⟨by rfl, ?_⟩) hHeld ?_
                  rotate_left
                  · intro w hSw; (try dsimp only at hSw); go_simp; (try with_reducible rfl)
                  (try simp only [Act.put, List.setIfInBounds_toArray, List.set_cons_zero, List.set_cons_succ])
                  refine takeL (i := 31) (v := ?_) rfl (by kernel_rfl) (by kernel_rfl) (by kernel_rfl) (fun _ _ _ h => h) (Or.inl ⟨by rfl, ?_⟩) hHeld ?_
                  rotate_left
                  · intro w hSw; (try dsimp only at hSw); go_simp; (try with_reducible rfl)
                  (try simp only [Act.put, List.setIfInBounds_toArray, List.set_cons_zero, List.set_cons_succ])
                  refine takeL (i := 32) (v := ?_) rfl (by kernel_rfl) (by kernel_rfl) (by kernel_rfl) (fun _ _ _ h => h) (Or.inl ⟨by rfl, ?_⟩) hHeld ?_
                  rotate_left
                  · intro w hSw; (try dsimp only at hSw); go_simp; (try with_reducible rfl)
                  (try simp only [Act.put, List.setIfInBounds_toArray, List.set_cons_zero, List.set_cons_succ])
                  refine takeL (i := 33) (v := ?_) rfl (by kernel_rfl) (by kernel_rfl) (by kernel_rfl) (fun _ _ _ h => h) (Or.inl ⟨by rfl, ?_⟩) hHeld ?_
                  rotate_left
                  · intro w hSw; (try dsimp only at hSw); go_simp; (try with_reducible rfl)
                  (try simp only [Act.put, List.setIfInBounds_toArray, List.set_cons_zero, List.set_cons_succ])
                  refine takeL (i := 34) (v := ?_) rfl (by kernel_rfl) (by kernel_rfl) (by kernel_rfl) (fun _ _ _ h => h) (Or.inl ⟨by rfl, ?_⟩) hHeld ?_
                  rotate_left
                  · intro w hSw; (try dsimp only at hSw); go_simp; (try with_reducible rfl)
                  (try simp only [Act.put, List.setIfInBounds_toArray, List.set_cons_zero, List.set_cons_succ])
                  refine takeL (i := 35) (v := ?_) rfl (by kernel_rfl) (by kernel_rfl) (by kernel_rfl) (fun _ _ _ h => h) (Or.inl ⟨by rfl, ?_⟩) hHeld ?_
                  rotate_left
                  · intro w hSw; (try dsimp only at hSw); go_simp; (try with_reducible rfl)
                  (try simp only [Act.put, List.setIfInBounds_toArray, List.set_cons_zero, List.set_cons_succ])
                  refine takeL (i := 36) (v := ?_) rfl (by kernel_rfl) (by kernel_rfl) (by kernel_rfl) (fun _ _ _ h => h) (Or.inl ⟨by rfl, ?_⟩) hHeld ?_
                  rotate_left
                  · intro w hSw; (try dsimp only at hSw); go_simp; (try with_reducible rfl)
                  (try simp only [Act.put, List.setIfInBounds_toArray, List.set_cons_zero, List.set_cons_succ])
                  refine takeL (i := 37) (v := ?_) rfl (by kernel_rfl) (by kernel_rfl) (by kernel_rfl) (fun _ _ _ h => h) (Or.inl ⟨by rfl, ?_⟩) hHeld ?_
                  rotate_left
                  · intro w hSw; (try dsimp only at hSw); go_simp; (try with_reducible rfl)
                  (try simp only [Act.put, List.setIfInBounds_toArray, List.set_cons_zero, List.set_cons_succ])
                  refine wpAnyH_done (by kernel_rfl) ?_ _
                  obtain ⟨ad, hrest, HRE⟩ := rest_run (k := k) hm.out hd hk (HB.out _ HBW.out)
                  have hfst : ∀ W : World, (Instr.slice 25 (.slice (some ⟨bb, bo, none⟩) m d) none (some (.int .i64 (k : Int))) none).run Try.prog W = .ok (.slice (some ⟨bb, bo, none⟩) k d) W := head_run hd hk
                  have HTK : Hid (∀ W, Below wr.heap.size wr W → ∀ j u, ((t.2.2.take k).flatMap cChange)[j]? = some u → W.cell? ((⟨bb, bo, none⟩ : Addr).add j) = some u) := fun W hW => (((HB.out _ HBW.out).takeC k).below hW).newsC
                  have HTL : Hid (((t.2.2.take k).flatMap cChange).length = k * 3) := by unfold Hid; rw [recsC_len, List.length_take, hm.out]; omega
                  have HDL : Hid (((t.2.2.drop k).flatMap cChange).length = (m - k) * 3) := by unfold Hid; rw [recsC_len, List.length_drop, hm.out]; (try rfl)
                  have HI : Hid (∃ i0 : TypeInfo, Try.prog.info? 53 = some i0 ∧ i0.zero = some (.agg #[.int .i64 0, .int .i64 0, .int .i64 0]) ∧ i0.size = 3 ∧ i0.bytes = 24) := info_parts info53
                  clear HSO HNE HOK hHeld
                  go_wp2_with fail
                  refine (OW.out wr.drew (Below.drew HBW.out) p0 p1 p2).mono ?_
                  rintro e w7 ⟨⟨g, cg, g2, cq, rfl, HOWN⟩, hb7⟩
                  have HBZ7 : Hid (Below wz.heap.size wz w7) := (Below.drew HBR.out).trans (hb7.mono HBR.out.size)
                  have HB7 : Hid (Below w.heap.size w w7) := BL.out.trans (HBZ7.out.mono BL.out.size)
                  have HW7 : Hid (Below wr.heap.size wr w7) := (Below.refl _ _).drew.trans hb7
                  have HZ7 : Hid (w.heap.size + 1 + 1 < w7.heap.size) := by have := HBZ7.out.size; rw [BZ.out] at this; exact this
                  clear p0 p1 p2 e0 e1 e2 d0 d1 d2 f0 f1 f2 hb7 OW
                  obtain ⟨⟨p0, p1, p2⟩, ⟨e0, e1, e2⟩, ⟨d0, d1, d2⟩, f0, f1, f2⟩ := HF.out _ HBZ7.out
                  have hz1 : w.heap.size < w7.heap.size := by have := HZ7.out; omega
                  have hz2 : w.heap.size + 1 < w7.heap.size := by have := HZ7.out; omega
                  have hz3 : w.heap.size + 1 + 1 < w7.heap.size := HZ7.out
                  have hst7 : wr.heap.size ≤ w7.heap.size := HW7.out.size
                  have hsz7 : wz.heap.size ≤ w7.heap.size := HBZ7.out.size
                  have HW8 : Hid ((w7.alloc (.cells #[.int .i64 t.1, .slice (some ⟨g, 0, none⟩) n cg, .slice (some ⟨g2, 0, none⟩) m cq] 27)).heap.size = w7.heap.size + 1) := by unfold Hid; simp
                  have HMADE : Hid (((w7.alloc (.cells #[.int .i64 t.1, .slice (some ⟨g, 0, none⟩) n cg, .slice (some ⟨g2, 0, none⟩) m cq] 27)).alloc (.cells #[] 53)).ownsRow (w7.heap.size + 1) 53 3 (.slice (some ⟨w7.heap.size + 1, 0, none⟩) 0 0) 0 []) := by
                    have h := World.ownsRow_made (base := w7.heap.size + 1) (e := 53) (size := 3) (w7.alloc (.cells #[.int .i64 t.1, .slice (some ⟨g, 0, none⟩) n cg, .slice (some ⟨g2, 0, none⟩) m cq] 27)) #[] 0 (by rw [HW8.out]; exact Nat.le_refl _) (by unfold maxLen; omega) rfl
                    rw [HW8.out] at h
                    exact h
                  have HZC : Hid (∀ W, Below (w7.heap.size + 1) (w7.alloc (.cells #[.int .i64 t.1, .slice (some ⟨g, 0, none⟩) n cg, .slice (some ⟨g2, 0, none⟩) m cq] 27)) W → (W.cell? ⟨w7.heap.size, 0, none⟩ = some (.int .i64 t.1) ∧ W.cell? ⟨w7.heap.size, 1, none⟩ = some (.slice (some ⟨g, 0, none⟩) n cg) ∧ W.cell? ⟨w7.heap.size, 2, none⟩ = some (.slice (some ⟨g2, 0, none⟩) m cq)) ∧ W.frozen? ⟨w7.heap.size, 2, none⟩ = false) := fun W h =>
                    ⟨⟨(h.cell (p := ⟨w7.heap.size, 0, none⟩) (Nat.lt_succ_self _)).trans (by simp [go_sem]), (h.cell (p := ⟨w7.heap.size, 1, none⟩) (Nat.lt_succ_self _)).trans (by simp [go_sem]), (h.cell (p := ⟨w7.heap.size, 2, none⟩) (Nat.lt_succ_self _)).trans (by simp [go_sem])⟩, (h.frozen (p := ⟨w7.heap.size, 2, none⟩) (Nat.lt_succ_self _)).trans (by simp [go_sem])⟩
                  have HBW7 : Hid (Below wz.heap.size wz (w7.alloc (.cells #[.int .i64 t.1, .slice (some ⟨g, 0, none⟩) n cg, .slice (some ⟨g2, 0, none⟩) m cq] 27))) := HBZ7.out.alloc hsz7 _
                  have HRW7 : Hid (Below wr.heap.size wr (w7.alloc (.cells #[.int .i64 t.1, .slice (some ⟨g, 0, none⟩) n cg, .slice (some ⟨g2, 0, none⟩) m cq] 27))) := HW7.out.alloc hst7 _
                  go_wp2_with (at_builtin; refine wpList_append_clone _ rfl _ _ 25 rfl (w7.heap.size + 1) 53 HI.out.choose (.agg #[.int .i64 0, .int .i64 0, .int .i64 0]) 3 24 Try.underlying25 HI.out.choose_spec.1 HI.out.choose_spec.2.1 HI.out.choose_spec.2.2.1 HI.out.choose_spec.2.2.2 rfl (by decide) (w7.heap.size + 1) rfl HMADE.out ⟨bb, bo, none⟩ k d _ rfl HTL.out (HTK.out _ (HRW7.out.alloc (by rw [HW8.out]; omega) _)) (recsC_one _) (by unfold maxLen; omega) (by omega) (by simp) ?_)
                  intro g8 cap8 w8 hown8 hgrow8 hat8
                  have HB8 : Hid (Below (w7.heap.size + 1) (w7.alloc (.cells #[.int .i64 t.1, .slice (some ⟨g, 0, none⟩) n cg, .slice (some ⟨g2, 0, none⟩) m cq] 27)) w8) := ((Below.refl _ _).alloc (by rw [HW8.out]; exact Nat.le_refl _) _ : Below (w7.heap.size + 1) (w7.alloc (.cells #[.int .i64 t.1, .slice (some ⟨g, 0, none⟩) n cg, .slice (some ⟨g2, 0, none⟩) m cq] 27)) ((w7.alloc (.cells #[.int .i64 t.1, .slice (some ⟨g, 0, none⟩) n cg, .slice (some ⟨g2, 0, none⟩) m cq] 27)).alloc (.cells #[] 53))).grown hgrow8 (by simp) (fun q hq => by simp at hq; omega)
                  have HBZ8 : Hid (Below wz.heap.size wz w8) := HBW7.out.trans (HB8.out.mono (by omega))
                  have HS8 : Hid (w7.heap.size + 1 ≤ w8.heap.size) := by have h := HB8.out.size; rw [HW8.out] at h; exact h
                  have HO8 := Lib.hid hown8
                  clear p0 p1 p2 e0 e1 e2 d0 d1 d2 f0 f1 f2 hown8 hgrow8 hat8
                  obtain ⟨⟨p0, p1, p2⟩, ⟨e0, e1, e2⟩, ⟨d0, d1, d2⟩, f0, f1, f2⟩ := HF.out _ HBZ8.out
                  have hs8 : w7.heap.size + 1 ≤ w8.heap.size := HS8.out
                  go_wp2_with (at_builtin; refine wpList_append_lies _ rfl _ _ 25 rfl (w7.heap.size + 1) 53 HI.out.choose (.agg #[.int .i64 0, .int .i64 0, .int .i64 0]) 3 24 Try.underlying25 HI.out.choose_spec.1 HI.out.choose_spec.2.1 HI.out.choose_spec.2.2.1 HI.out.choose_spec.2.2.2 rfl (by decide) (.slice (some ⟨g8, 0, none⟩) k cap8) k _ rfl (HO8.out.alloc _) ⟨w8.heap.size, 0, none⟩ 1 1 [.int .i64 c1, .int .i64 c2, .int .i64 c3] rfl rfl (World.news_of_block (heap_alloc_new _ _)) (by intro u hu; simp at hu; rcases hu with rfl | rfl | rfl <;> rfl) (by omega) (by unfold maxLen; omega) (by omega) (by simp; omega) (w8.heap.size + 1) (by simp) ?_)
                  intro g9 cap9 w9 hown9 hgrow9 hat9 hlt9
                  have HB9 : Hid (Below (w7.heap.size + 1) (w7.alloc (.cells #[.int .i64 t.1, .slice (some ⟨g, 0, none⟩) n cg, .slice (some ⟨g2, 0, none⟩) m cq] 27)) w9) := (HB8.out.alloc hs8 _).grown hgrow9 (by simp; omega) (fun q hq => (HO8.out.lt q hq).1)
                  have HBZ9 : Hid (Below wz.heap.size wz w9) := HBW7.out.trans (HB9.out.mono (by omega))
                  have HRW9 : Hid (Below wr.heap.size wr w9) := HRW7.out.trans (HB9.out.mono (by omega))
                  have HS9 : Hid (w7.heap.size + 1 ≤ w9.heap.size) := by have h := HB9.out.size; rw [HW8.out] at h; exact h
                  have HO9 := Lib.hid hown9
                  clear p0 p1 p2 e0 e1 e2 d0 d1 d2 f0 f1 f2 hown9 hgrow9 hat9
                  obtain ⟨⟨p0, p1, p2⟩, ⟨e0, e1, e2⟩, ⟨d0, d1, d2⟩, f0, f1, f2⟩ := HF.out _ HBZ9.out
                  go_wp2_with (at_builtin; refine wpList_append_more _ rfl _ _ 25 rfl (w7.heap.size + 1) 53 HI.out.choose (.agg #[.int .i64 0, .int .i64 0, .int .i64 0]) 3 24 Try.underlying25 HI.out.choose_spec.1 HI.out.choose_spec.2.1 HI.out.choose_spec.2.2.1 HI.out.choose_spec.2.2.2 rfl (by decide) (.slice (some ⟨g9, 0, none⟩) (k + 1) cap9) (k + 1) _ rfl HO9.out (by omega) ad (m - k) (d - k) _ rfl HDL.out (HRE.out _ HRW9.out) (recsC_one _) (by unfold maxLen; omega) (by omega) HS9.out ?_)
                  intro g5 cap5 w5 hown5 hgrow5 hat5
                  have HB5 : Hid (Below (w7.heap.size + 1) (w7.alloc (.cells #[.int .i64 t.1, .slice (some ⟨g, 0, none⟩) n cg, .slice (some ⟨g2, 0, none⟩) m cq] 27)) w5) := HB9.out.grown hgrow5 HS9.out (fun q hq => (HO9.out.lt q hq).1)
                  have HBZ5 : Hid (Below wz.heap.size wz w5) := HBW7.out.trans (HB5.out.mono (by omega))
                  have HS5 : Hid (w7.heap.size + 1 ≤ w5.heap.size) := by have h := HB5.out.size; rw [HW8.out] at h; exact h
                  have HR5 : Hid (Below w7.heap.size w7 w5) := Below.trans (b := (w7.alloc (.cells #[.int .i64 t.1, .slice (some ⟨g, 0, none⟩) n cg, .slice (some ⟨g2, 0, none⟩) m cq] 27))) ((Below.refl _ _).alloc (Nat.le_refl _) _) (HB5.out.mono (by omega))
                  have HO5 := Lib.hid hown5
                  have HB6 : Hid (Below w.heap.size w w5) := BL.out.trans (HBZ5.out.mono BL.out.size)
                  clear p0 p1 p2 e0 e1 e2 d0 d1 d2 f0 f1 f2 hown5 hgrow5 hat5
                  obtain ⟨⟨p0, p1, p2⟩, ⟨e0, e1, e2⟩, ⟨d0, d1, d2⟩, f0, f1, f2⟩ := HF.out _ HBZ5.out
                  obtain ⟨⟨z0, z1, z2⟩, z3⟩ := HZC.out _ HB5.out
                  have hs5 : w7.heap.size + 1 ≤ w5.heap.size := HS5.out
                  have hd0 : w7.heap.size ≠ w.heap.size + 1 + 1 := by omega
                  have hd1 : w.heap.size + 1 + 1 ≠ w7.heap.size := by omega
                  go_wp2_with fail
                  have R0 := HOWN.out.below HR5.out
                  have hg7 : g < w7.heap.size := (R0.2 g rfl).2
                  have hgl : wr.drew.heap.size ≤ g := (R0.2 g rfl).1
                  have hwr1 : wr.drew.heap.size = wr.heap.size := rfl
                  have hwz1 : wz.heap.size ≤ wr.heap.size := HBR.out.size
                  have hwz2 : wz.heap.size = w.heap.size + 1 + 1 + 1 := BZ.out
                  have R2 : Row (w7.heap.size + 1) w5.heap.size 53 3 (.slice (some ⟨g5, 0, none⟩) (k + 1 + (m - k)) cap5) (k + 1 + (m - k)) ((t.2.2.take k ++ (c1, c2, c3) :: t.2.2.drop k).flatMap cChange) w5 := by
                    have h := Row.of HO5.out
                    simpa [cChange] using h
                  have hg5 : w7.heap.size + 1 ≤ g5 := (R2.2 g5 rfl).1
                  have hc1 : (t.2.2.take k ++ (c1, c2, c3) :: t.2.2.drop k).length = k + 1 + (m - k) := by rw [List.length_append, List.length_cons, List.length_take, List.length_drop, hm.out]; omega
                  have R3 := (row_setCell (row_setCell (row_setCell (row_setCell R2 (b := w7.heap.size) (o := 2) (by omega) (.slice (some ⟨g5, 0, none⟩) (k + 1 + (m - k)) cap5)) (b := w.heap.size + 1 + 1) (o := 0) (by omega) (.int .i64 t.1)) (b := w.heap.size + 1 + 1) (o := 1) (by omega) (.slice (some ⟨g, 0, none⟩) n cg)) (b := w.heap.size + 1 + 1) (o := 2) (by omega) (.slice (some ⟨g5, 0, none⟩) (k + 1 + (m - k)) cap5)).widen (lo' := w.heap.size) (by omega) (Nat.le_refl _)
                  have R4 := (row_setCell (row_setCell (row_setCell (row_setCell_hi R0 (b := w7.heap.size) (o := 2) (Nat.le_refl _) (.slice (some ⟨g5, 0, none⟩) (k + 1 + (m - k)) cap5)) (b := w.heap.size + 1 + 1) (o := 0) (by omega) (.int .i64 t.1)) (b := w.heap.size + 1 + 1) (o := 1) (by omega) (.slice (some ⟨g, 0, none⟩) n cg)) (b := w.heap.size + 1 + 1) (o := 2) (by omega) (.slice (some ⟨g5, 0, none⟩) (k + 1 + (m - k)) cap5)).widen (lo' := w.heap.size) (by omega) (Nat.le_refl _)
                  exact bodyPost_ret (v := .tuple #[.agg #[.int .i64 t.1, .slice (some ⟨g, 0, none⟩) n cg, .slice (some ⟨g5, 0, none⟩) (k + 1 + (m - k)) cap5], .int .i64 0]) (by simp [results, Try.results25, go_sem, d0, d1, d2]) rfl (givesAZ_of (t := (t.1, t.2.1, t.2.2.take k ++ (c1, c2, c3) :: t.2.2.drop k)) HR.out (by repeat (first | exact HB6.out | refine Below.alloc ?_ (by first | omega | (simp; done) | (simp; omega)) _ | refine Below.setCell ?_ (by first | omega | (simp; done) | (simp; omega)) _)) hn.out hc1 R4.1 R3.1 (by omega))
end Go.Proofs.Ytghpefdleiebmaa
