/-
  slices.Concat at the tubes of a network: slices.Grow laid at this program, in plain words; the walk of Concat over two parts.
-/
import Derived.Test.YtbndminegokffaaNetTo
import Derived.Test.YtbndminegokffaaRowAt
import Derived.Shelf.Spec.SlicesGrow
import Derived.Deep.AppendLies
import Derived.OwnWalk
namespace Go.Proofs
open Go.Shelf
def Try.growT_ren : Go.Shelf.Ren := ⟨fun | 4 => 35 | n => n, fun | 22 => 24 | 25 => 36 | 3 => 3 | 4 => 4 | 9 => 9 | 20 => 20 | 0 => 0 | n => n, fun | n => n⟩
theorem Try.growT : Go.Proofs.Lays8.n4 Try.prog Try.growT_ren := {
  mixed := by kernel_rfl
  f4 := ⟨Try.f35.name, by decide, Try.func35.trans (congrArg some (by kernel_rfl))⟩
  t0 := Try.underlying0
  a0 := Try.isAgg0
  z0 := Try.sizeOf0
  v0 := Try.zeroValue0
  t3 := Try.underlying3
  a3 := Try.isAgg3
  z3 := Try.sizeOf3
  v3 := Try.zeroValue3
  t4 := Try.underlying4
  a4 := Try.isAgg4
  z4 := Try.sizeOf4
  v4 := Try.zeroValue4
  t9 := Try.underlying9
  a9 := Try.isAgg9
  z9 := Try.sizeOf9
  v9 := Try.zeroValue9
  t20 := Try.underlying20
  a20 := Try.isAgg20
  z20 := Try.sizeOf20
  v20 := Try.zeroValue20
  t22 := Try.underlying24
  a22 := Try.isAgg24
  z22 := Try.sizeOf24
  v22 := Try.zeroValue24 }
end Go.Proofs
namespace Go.Proofs.Ytbndminegokffaa
open Go.RowKit Go.Shelf

theorem flat_appC (ts us : List T3) : flat (ts ++ us) = flat ts ++ flat us := by simp [flat]
theorem flat_oneC (ts : List T3) : ∀ u ∈ flat ts, u.oneCell' = true := by
  intro u hu
  unfold flat at hu
  rw [List.mem_flatMap] at hu
  obtain ⟨t, _, hu⟩ := hu
  simp at hu
  rcases hu with rfl | rfl | rfl <;> rfl
theorem RT_newsC {w : World} {b off : Nat} {ts : List T3} (h : ∀ i (h : i < ts.length), w.cell? ⟨b, off + i * 3, none⟩ = some (.int .i64 ts[i].1) ∧ w.cell? ⟨b, off + i * 3 + 1, none⟩ = some (.int .i64 ts[i].2.1) ∧ w.cell? ⟨b, off + i * 3 + 2, none⟩ = some (.int .i64 ts[i].2.2)) :
    ∀ j u, (flat ts)[j]? = some u → w.cell? ((⟨b, off, none⟩ : Addr).add j) = some u := by
  intro j u hu
  rw [Addr.add_lit]
  have hj : j < (flat ts).length := (List.getElem?_eq_some_iff.1 hu).1
  rw [flat_length] at hj
  obtain ⟨h1, h2, h3⟩ := h (j / 3) (by omega)
  obtain ⟨g1, g2, g3⟩ := flat_get ts (j / 3) (by omega)
  have : j = j / 3 * 3 ∨ j = j / 3 * 3 + 1 ∨ j = j / 3 * 3 + 2 := by omega
  rcases this with e | e | e
  · rw [← e] at h1 g1; rw [h1, ← g1, hu]
  · rw [Nat.add_assoc, ← e] at h2; rw [← e] at g2; rw [h2, ← g2, hu]
  · rw [Nat.add_assoc, ← e] at h3; rw [← e] at g3; rw [h3, ← g3, hu]

theorem infoTubeC : (Try.prog.info? 36).map (fun i => (i.zero, i.size, i.bytes)) = some (some (.agg #[.int .i64 0, .int .i64 0, .int .i64 0]), 3, 24) := by kernel_rfl
/-- Room for m tubes, in memory of its own. -/
theorem growT_any (m : Nat) (w : World) (hm0 : 0 < m) (hm : m ≤ 1000) :
    Calls Try.prog 35 #[.slice none 0 0, .int .i64 (m : Int)] w fun e w' => ∃ cap, e = .returned (.slice (some ⟨w.heap.size, 0, none⟩) 0 cap) ∧ m ≤ cap ∧ Below w.heap.size w w' ∧ w'.ownsRow w.heap.size 36 3 (.slice (some ⟨w.heap.size, 0, none⟩) 0 cap) 0 [] := by
  obtain ⟨i0, hi, hz0, hz1, hz2⟩ := info_parts infoTubeC
  have key := Any8.slices_Grow_grow Try.growT i0 _ hi hz0 (by omega) none 0 0 m [] w (Nat.le_refl _) (by omega) (by rw [hz2]; omega) (by omega) (by simp) (fun _ => rfl) (fun a h => by cases h)
  refine Calls.mono key ?_
  rintro e w' ⟨rfl, rfl⟩
  have hge := grownCap_ge w (0 + m) 0 (Try.growT_ren.t 25)
  have hle := grownCap_le_maxLen w (0 + m) 0 (Try.growT_ren.t 25) (by unfold maxLen; omega)
  refine ⟨_, rfl, ?_, (Below.refl _ _).drew.alloc (Nat.le_refl _) _, ?_⟩
  · exact Nat.le_trans (by omega) hge
  · refine World.ownsRow_made w.drew _ _ (Nat.le_refl _) hle ?_
    have h1 : m ≤ grownCap w m 0 (Try.growT_ren.t 25) := by simpa using hge
    simp only [Array.size_append, size_zeroCells]
    simp
    show m * 3 + (grownCap w m 0 (Try.growT_ren.t 25) - m) * 3 = grownCap w m 0 (Try.growT_ren.t 25) * 3
    omega
set_option maxRecDepth 20000 in
set_option maxHeartbeats 4000000 in
theorem concat_any (h c : Nat) (ad0 ad1 : Addr) (l0 l1 : List T3) (m0 m1 c0 c1 : Nat) (w : World) (hl0 : Hid (l0.length = m0)) (hl1 : Hid (l1.length = m1)) (hm : 0 < m0 + m1) (hm2 : m0 + m1 ≤ 100) (x0 : w.cell? ⟨h, 0, none⟩ = some (.slice (some ad0) m0 c0)) (x1 : w.cell? ⟨h, 1, none⟩ = some (.slice (some ad1) m1 c1))
    (N0 : ∀ W, Below w.heap.size w W → ∀ j u, (flat l0)[j]? = some u → W.cell? (ad0.add j) = some u) (N1 : ∀ W, Below w.heap.size w W → ∀ j u, (flat l1)[j]? = some u → W.cell? (ad1.add j) = some u) :
    Calls Try.prog 26 #[.slice (some ⟨h, 0, none⟩) 2 c] w fun e w' => ∃ g cap, e = .returned (.slice (some ⟨g, 0, none⟩) (m0 + m1) cap) ∧ Below w.heap.size w w' ∧ w'.ownsRow w.heap.size 36 3 (.slice (some ⟨g, 0, none⟩) (m0 + m1) cap) (m0 + m1) (flat (l0 ++ l1)) := by
  have HI : Hid (∃ i0 : TypeInfo, Try.prog.info? 36 = some i0 ∧ i0.zero = some (.agg #[.int .i64 0, .int .i64 0, .int .i64 0]) ∧ i0.size = 3 ∧ i0.bytes = 24) := info_parts infoTubeC
  have hhl := World.block_lt_of_cell? w _ x0
  simp only at hhl
  have HX : Hid (∀ W, Below w.heap.size w W → W.cell? ⟨h, 0, none⟩ = some (.slice (some ad0) m0 c0) ∧ W.cell? ⟨h, 1, none⟩ = some (.slice (some ad1) m1 c1)) := fun W hW => ⟨(hW.cell (p := ⟨h, 0, none⟩) hhl).trans x0, (hW.cell (p := ⟨h, 1, none⟩) hhl).trans x1⟩
  have HN0 := Lib.hid N0
  have HN1 := Lib.hid N1
  have d0 : ¬ (m0 : Int) < 0 := by omega
  have d1 : ¬ (m0 : Int) + (m1 : Int) < 0 := by omega
  clear N0 N1 x0 x1
  go_enter Try.func26, Try.ntmps26
  go_wp2
  go_loopw [3, 11] (fun sv iv wr => ((sv = .int .i64 0 ∧ iv = .int .i64 0) ∨ (sv = .int .i64 (m0 : Int) ∧ iv = .int .i64 1) ∨ (sv = .int .i64 ((m0 + m1 : Nat) : Int) ∧ iv = .int .i64 2)) ∧ w = wr) (fun _ iv _ => 2 - (intOf iv).toNat)
  case atStart => exact ⟨.inl ⟨rfl, rfl⟩, rfl⟩
  case round =>
    obtain ⟨hc, rfl⟩ := hrel
    obtain ⟨x0, x1⟩ := HX.out w (Below.refl _ _)
    rcases hc with ⟨rfl, rfl⟩ | ⟨rfl, rfl⟩ | ⟨rfl, rfl⟩
    · go_wp2
      go_roundw
      case rel => exact ⟨.inr (.inl ⟨by first | rfl | go_num | (simp; done), by first | rfl | go_num⟩), by first | rfl | trivial⟩
      case measure => simp [intOf]
    · go_wp2
      go_roundw
      case rel => exact ⟨.inr (.inr ⟨by first | rfl | go_num | (simp; done), by first | rfl | go_num⟩), by first | rfl | trivial⟩
      case measure => simp [intOf]
    · have GT := growT_any (m0 + m1) w hm (by omega)
      clear x0 x1 d0 d1
      go_wp2_with (go_at_call 35; refine GT.mono ?_; rintro e w1 ⟨cap, rfl, hcap, hb1, ho1⟩)
      have HB1 := Lib.hid hb1
      have HO1 := Lib.hid ho1
      clear hb1 ho1 GT
      go_loopw [6, 27] (fun vv iv wr => Hid (Below w.heap.size w wr) ∧ ((vv = .slice (some ⟨w.heap.size, 0, none⟩) 0 cap ∧ iv = .int .i64 0 ∧ Hid (wr.ownsRow w.heap.size 36 3 (.slice (some ⟨w.heap.size, 0, none⟩) 0 cap) 0 [])) ∨ (vv = .slice (some ⟨w.heap.size, 0, none⟩) m0 cap ∧ iv = .int .i64 1 ∧ Hid (wr.ownsRow w.heap.size 36 3 (.slice (some ⟨w.heap.size, 0, none⟩) m0 cap) m0 (flat l0))) ∨ (vv = .slice (some ⟨w.heap.size, 0, none⟩) (m0 + m1) cap ∧ iv = .int .i64 2 ∧ Hid (wr.ownsRow w.heap.size 36 3 (.slice (some ⟨w.heap.size, 0, none⟩) (m0 + m1) cap) (m0 + m1) (flat (l0 ++ l1)))))) (fun _ iv _ => 2 - (intOf iv).toNat)
      case atStart => exact ⟨HB1, .inl ⟨rfl, rfl, HO1⟩⟩
      case round =>
        clear HB1 HO1
        obtain ⟨HB, hc⟩ := hrel
        obtain ⟨x0, x1⟩ := HX.out wr HB.out
        rcases hc with ⟨rfl, rfl, HO⟩ | ⟨rfl, rfl, HO⟩ | ⟨rfl, rfl, HO⟩
        · go_wp2_with (at_builtin; refine wpList_append_fits_any _ rfl _ _ 24 rfl w.heap.size 36 HI.out.choose 3 Try.underlying24 HI.out.choose_spec.1 HI.out.choose_spec.2.2.1 w.heap.size 0 cap _ rfl HO.out (some ad0) m0 c0 (flat l0) rfl (by rw [flat_length, hl0.out]) (fun h => by cases h) (fun ad h j u hj => by injection h with h; subst h; exact HN0.out _ HB.out j u hj) (flat_oneC _) (by omega) ?_)
          intro w5 ho5 hgr5
          have HB5 : Hid (Below w.heap.size w w5) := HB.out.grown hgr5 HB.out.size (fun k hk => by injection hk with hk; omega)
          have HO5 : Hid (w5.ownsRow w.heap.size 36 3 (.slice (some ⟨w.heap.size, 0, none⟩) m0 cap) m0 (flat l0)) := by unfold Hid; simpa using ho5
          clear ho5 hgr5
          go_wp2
          go_roundw
          case rel => exact ⟨HB5, .inr (.inl ⟨rfl, by first | rfl | go_num, HO5⟩)⟩
          case measure => simp [intOf]
        · go_wp2_with (at_builtin; refine wpList_append_fits_any _ rfl _ _ 24 rfl w.heap.size 36 HI.out.choose 3 Try.underlying24 HI.out.choose_spec.1 HI.out.choose_spec.2.2.1 w.heap.size m0 cap _ rfl HO.out (some ad1) m1 c1 (flat l1) rfl (by rw [flat_length, hl1.out]) (fun h => by cases h) (fun ad h j u hj => by injection h with h; subst h; exact HN1.out _ HB.out j u hj) (flat_oneC _) (by omega) ?_)
          intro w5 ho5 hgr5
          have HB5 : Hid (Below w.heap.size w w5) := HB.out.grown hgr5 HB.out.size (fun k hk => by injection hk with hk; omega)
          have HO5 : Hid (w5.ownsRow w.heap.size 36 3 (.slice (some ⟨w.heap.size, 0, none⟩) (m0 + m1) cap) (m0 + m1) (flat (l0 ++ l1))) := by unfold Hid; rw [flat_appC]; exact ho5
          clear ho5 hgr5
          go_wp2
          go_roundw
          case rel => exact ⟨HB5, .inr (.inr ⟨rfl, by first | rfl | go_num, HO5⟩)⟩
          case measure => simp [intOf]
        · go_wp2
          go_ret
          exact ⟨w.heap.size, cap, rfl, HB.out, HO.out⟩
end Go.Proofs.Ytbndminegokffaa
