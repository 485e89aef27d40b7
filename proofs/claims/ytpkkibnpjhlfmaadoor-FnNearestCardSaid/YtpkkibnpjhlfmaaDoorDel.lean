/-
  slices.Delete at bytes, of one element, on a block of its own.
-/
import Derived.Test.YtpkkibnpjhlfmaaDoorWorst
import Derived.Deep.RegionLaw
import Derived.Lib.SliceRun
import Derived.Lib.EndianMore
namespace Go.Proofs.YtpkkibnpjhlfmaaDoor
open Go.RowKit

def cutL (r : Nat) (l : List UInt8) : List UInt8 := l.take r ++ l.drop (r + 1)
theorem cutL_len {r m : Nat} {l : List UInt8} (h : l.length = r + 1 + m) : (cutL r l).length = r + m := by
  unfold cutL; rw [List.length_append, List.length_take, List.length_drop, h]; omega
theorem cutL_low {r i : Nat} {l : List UInt8} (h : i < r) (hl : r ≤ l.length) : (cutL r l).getD i 0 = l.getD i 0 := by
  unfold cutL
  rw [List.getD_eq_getElem?_getD, List.getD_eq_getElem?_getD, List.getElem?_append_left (by rw [List.length_take]; omega), List.getElem?_take_of_lt h]
theorem cutL_high {r i : Nat} {l : List UInt8} (h : r ≤ i) (hr : r ≤ l.length) : (cutL r l).getD i 0 = l.getD (i + 1) 0 := by
  unfold cutL
  have e : (l.take r).length = r := by rw [List.length_take]; omega
  rw [List.getD_eq_getElem?_getD, List.getD_eq_getElem?_getD, List.getElem?_append_right (by rw [e]; exact h), List.getElem?_drop, e]
  congr 2
  omega
/-- Cells of bytes from the block's beginning on. -/
def ByteBlk (w : World) (g : Nat) (l : List UInt8) : Prop := ∀ i, i < l.length → w.cell? ⟨g, i, none⟩ = some (.int .u8 (((l.getD i 0).toNat : Nat) : Int)) ∧ w.frozen? ⟨g, i, none⟩ = false
theorem byteU_info : (Tryd.prog.info? 5).map (fun i => (i.zero, i.size, i.bytes)) = some (some (.int .u8 0), 1, 1) := by kernel_rfl
theorem bytes_one (l : List UInt8) : ∀ u ∈ l.map (fun b => Value.int .u8 ((b.toNat : Nat) : Int)), u.oneCell' = true := by
  intro u hu
  obtain ⟨b, _, rfl⟩ := List.mem_map.1 hu
  rfl
theorem zeroU8 : ∀ w, (zeroValue 5).run Tryd.prog w = .ok (.int .u8 0) w := by
  intro w
  simp [zeroValue]
  rfl
theorem del_world {w W : World} {g r m : Nat} {l : List UInt8} (hb : ByteBlk w g l) (hm : l.length = r + 1 + m) (hW : W = w.drew.setCells g (0 + r * 1) ((l.drop (r + 1)).map fun b => .int .u8 ((b.toNat : Nat) : Int))) :
    Below g w W ∧ (∀ i, (hi : i < r + m) → W.cell? ⟨g, i, none⟩ = some (.int .u8 ((((cutL r l).getD i 0).toNat : Nat) : Int))) ∧ (∀ i, i < l.length → (W.cell? ⟨g, i, none⟩).isSome = true ∧ W.frozen? ⟨g, i, none⟩ = false) := by
  have e0 : 0 + r * 1 = r := by omega
  rw [e0] at hW
  have hd : ∀ x, w.drew.cell? x = w.cell? x := fun x => rfl
  have hf : ∀ x, w.drew.frozen? x = w.frozen? x := fun x => rfl
  have hlen : ((l.drop (r + 1)).map fun b => Value.int .u8 ((b.toNat : Nat) : Int)).length = m := by rw [List.length_map, List.length_drop, hm]; omega
  subst hW
  refine ⟨?_, fun i hi => ?_, fun i hi => ⟨?_, ?_⟩⟩
  · exact (Below.drew (Below.refl g w)).trans (Lib.below_setCells_w (Nat.le_refl g) _ _ _)
  · by_cases h : i < r
    · rw [World.cell?_setCells_out g _ _ _ _ (fun _ _ => .inl h), hd, (hb i (by omega)).1, cutL_low h (by omega)]
    · obtain ⟨j, rfl⟩ : ∃ j, i = r + j := ⟨i - r, by omega⟩
      rw [World.cell?_setCells_in g _ r _ (fun j hj => by rw [hlen] at hj; rw [hd, (hb (r + j) (by omega)).1]; rfl) j (by rw [hlen]; omega)]
      rw [List.getElem_map, List.getElem_drop, cutL_high (by omega) (by omega), List.getD_eq_getElem?_getD, List.getElem?_eq_getElem (by omega)]
      congr 5
      omega
  · exact World.isSome_setCells g _ _ _ _ (by rw [hd, (hb i hi).1]; rfl)
  · rw [World.frozen?_setCells, hf]; exact (hb i hi).2
theorem del_clear {w W3 W : World} {g r m : Nat} {F : Nat → Value} (hB : Below g w W3) (hc : ∀ i, (hi : i < r + m) → W3.cell? ⟨g, i, none⟩ = some (F i) ∧ W3.frozen? ⟨g, i, none⟩ = false) (hW : W = W3.setCells g (r + m) (List.replicate 1 (.int .u8 0))) :
    Below g w W ∧ ∀ i, (hi : i < r + m) → W.cell? ⟨g, i, none⟩ = some (F i) ∧ W.frozen? ⟨g, i, none⟩ = false := by
  subst hW
  refine ⟨hB.trans (Lib.below_setCells_w (Nat.le_refl g) _ _ _), fun i hi => ⟨?_, ?_⟩⟩
  · rw [World.cell?_setCells_out g _ _ _ _ (fun _ _ => .inl hi)]; exact (hc i hi).1
  · rw [World.frozen?_setCells]; exact (hc i hi).2

set_option maxRecDepth 100000 in
set_option maxHeartbeats 8000000 in
theorem delB_any (g c r : Nat) (l : List UInt8) (w : World) (hb : ByteBlk w g l) (hr : r < l.length) (hc : l.length ≤ c) (hcm : c ≤ 9223372036854775807) :
    Calls Tryd.prog 86 #[.slice (some ⟨g, 0, none⟩) l.length c, .int .i64 (r : Int), .int .i64 ((r : Int) + 1)] w fun e w' => e = .returned (.slice (some ⟨g, 0, none⟩) (l.length - 1) c) ∧ Below g w w' ∧ ByteBlk w' g (cutL r l) := by
  have HI : Hid (∃ i0 : TypeInfo, Tryd.prog.info? 5 = some i0 ∧ i0.zero = some (.int .u8 0) ∧ i0.size = 1 ∧ i0.bytes = 1) := info_parts byteU_info
  have HBB := Lib.hid hb
  obtain ⟨m, hm⟩ : ∃ m, l.length = r + 1 + m := ⟨l.length - (r + 1), by omega⟩
  have HM := Lib.hid hm
  have hne : ((r : Int) == (r : Int) + 1) = false := by simp; omega
  have h1 : (0 : Int) ≤ (r : Int) := by omega
  have h2 : (r : Int) ≤ (r : Int) + 1 := by omega
  have h3 : (r : Int) + 1 ≤ ((r + 1 + m : Nat) : Int) := by omega
  have h4 : ((r + 1 + m : Nat) : Int) ≤ (c : Int) := by omega
  have h5 : (0 : Int) ≤ (r : Int) + 1 := by omega
  have h6 : r ≤ c := by omega
  have hA : r + 1 ≤ r + 1 + m := by omega
  have hB : (r : Int) + 1 ≤ (r : Int) + 1 + (m : Int) := by omega
  have hC : (r : Int) + 1 + (m : Int) ≤ (c : Int) := by omega
  have hD : 0 ≤ (r : Int) + 1 + (m : Int) := by omega
  have hsub : r + 1 + m - (r + 1) = m := by omega
  have HNL : Hid ((l.drop (r + 1)).length = m) := by unfold Hid; rw [List.length_drop, HM.out]; omega
  have HSP : Hid (∀ j, j < ((l.drop (r + 1)).map fun b => Value.int .u8 ((b.toNat : Nat) : Int)).length → (w.cell? ⟨g, 0 + r * 1 + j, none⟩).isSome = true ∧ w.frozen? ⟨g, 0 + r * 1 + j, none⟩ = false) := fun j hj => by
    rw [List.length_map, HNL.out] at hj
    have := HBB.out (0 + r * 1 + j) (by rw [HM.out]; omega)
    exact ⟨by rw [this.1]; rfl, this.2⟩
  have HNE : Hid (∀ j u, ((l.drop (r + 1)).map fun b => Value.int .u8 ((b.toNat : Nat) : Int))[j]? = some u → w.cell? ((⟨g, r + 1, none⟩ : Addr).add j) = some u) := fun j u hj => by
    have hjl : j < m := by have := (List.getElem?_eq_some_iff.1 hj).1; rw [List.length_map, HNL.out] at this; exact this
    rw [List.getElem?_map, List.getElem?_drop, List.getElem?_eq_getElem (by rw [HM.out]; omega)] at hj
    rw [Addr.add_lit, (HBB.out (r + 1 + j) (by rw [HM.out]; omega)).1, List.getD_eq_getElem?_getD, List.getElem?_eq_getElem (by rw [HM.out]; omega)]
    exact hj
  clear hb hr hc
  rw [hm]
  by_cases hce : c = r + 1
  · have hm0 : m = 0 := by omega
    have HN0 : Hid (∀ j u, ((l.drop (r + 1)).map fun b => Value.int .u8 ((b.toNat : Nat) : Int))[j]? = some u → w.cell? ((⟨g, 0, none⟩ : Addr).add j) = some u) := fun j u hj => by
      have hjl : j < m := by have := (List.getElem?_eq_some_iff.1 hj).1; rw [List.length_map, HNL.out] at this; exact this
      omega
    clear hm hm0
    subst hce
    go_enter Tryd.func86, Tryd.ntmps86
    go_wp2_with fail
    go_region_law (refine step_append_room rfl _ _ _ (by rfl) _ _ _ Tryd.underlying22 HI.out.choose_spec.1 HI.out.choose_spec.2.2.1 g 0 r (r + 1) (by rfl) ⟨g, 0, none⟩ m 0 ((l.drop (r + 1)).map fun b => .int .u8 ((b.toNat : Nat) : Int)) (by rfl) ?_ ?_ ?_ ?_ ?_ ?_; (next => (rw [List.length_map, HNL.out, Nat.mul_one])); (next => exact HN0.out); (next => exact bytes_one _); (next => omega); (next => exact HSP.out))
    all_goals
      obtain ⟨W3, hW3⟩ : ∃ W3, W3 = w.drew.setCells g r (List.drop (r + 1) (List.map (fun b => Value.int .u8 ((b.toNat : Nat) : Int)) l)) := ⟨_, rfl⟩
      have hW4 : W3 = w.drew.setCells g (0 + r * 1) ((l.drop (r + 1)).map fun b => .int .u8 ((b.toNat : Nat) : Int)) := by rw [hW3]; simp
      obtain ⟨HB3, HC3, HF3⟩ := del_world HBB.out HM.out hW4
      have HB3 := Lib.hid HB3
      have HC3 := Lib.hid HC3
      have hclr := fun (ty : TypeId) (cc : Nat) => Lib.run_clear_slice (P := Tryd.prog) W3 22 5 ty (.int .u8 0) Tryd.underlying22 zeroU8 rfl rfl g (r + m) 1 cc (by omega) (fun j hj => by have := (HF3 (r + m + j) (by rw [HM.out]; omega)).1; exact this) (fun j hj => (HF3 (r + m + j) (by rw [HM.out]; omega)).2)
      have HW4 : Hid (∀ W, W = W3.setCells g (r + m) (List.replicate 1 (.int .u8 0)) → Below g w W ∧ ∀ i, (hi : i < r + m) → W.cell? ⟨g, i, none⟩ = some (.int .u8 ((((cutL r l).getD i 0).toNat : Nat) : Int)) ∧ W.frozen? ⟨g, i, none⟩ = false) := fun W hW => del_clear HB3.out (fun i hi => ⟨HC3.out i hi, (HF3 i (by rw [HM.out]; omega)).2⟩) hW
      generalize W3.setCells g (r + m) (List.replicate 1 (.int .u8 0)) = W4 at hclr HW4
      first | rw [← hW4] | rw [← hW3]
      have e1 : r + 1 + m - (r + m) = 1 := by omega
      clear HF3 HC3 HB3 hW3 hW4
      go_wp2
      go_ret
      obtain ⟨k1, k2⟩ := HW4.out W4 rfl
      refine ⟨by simp, k1, fun i hi => k2 i (by rw [cutL_len HM.out] at hi; exact hi)⟩
  · clear hm
    go_enter Tryd.func86, Tryd.ntmps86
    go_wp2_with fail
    go_region_law (refine step_append_room rfl _ _ _ (by rfl) _ _ _ Tryd.underlying22 HI.out.choose_spec.1 HI.out.choose_spec.2.2.1 g 0 r c (by rfl) ⟨g, r + 1, none⟩ m (c - (r + 1)) ((l.drop (r + 1)).map fun b => .int .u8 ((b.toNat : Nat) : Int)) (by rfl) ?_ ?_ ?_ ?_ ?_ ?_; (next => (rw [List.length_map, HNL.out, Nat.mul_one])); (next => exact HNE.out); (next => exact bytes_one _); (next => omega); (next => exact HSP.out))
    all_goals
      obtain ⟨W3, hW3⟩ : ∃ W3, W3 = w.drew.setCells g r (List.drop (r + 1) (List.map (fun b => Value.int .u8 ((b.toNat : Nat) : Int)) l)) := ⟨_, rfl⟩
      have hW4 : W3 = w.drew.setCells g (0 + r * 1) ((l.drop (r + 1)).map fun b => .int .u8 ((b.toNat : Nat) : Int)) := by rw [hW3]; simp
      obtain ⟨HB3, HC3, HF3⟩ := del_world HBB.out HM.out hW4
      have HB3 := Lib.hid HB3
      have HC3 := Lib.hid HC3
      have hclr := fun (ty : TypeId) (cc : Nat) => Lib.run_clear_slice (P := Tryd.prog) W3 22 5 ty (.int .u8 0) Tryd.underlying22 zeroU8 rfl rfl g (r + m) 1 cc (by omega) (fun j hj => by have := (HF3 (r + m + j) (by rw [HM.out]; omega)).1; exact this) (fun j hj => (HF3 (r + m + j) (by rw [HM.out]; omega)).2)
      have HW4 : Hid (∀ W, W = W3.setCells g (r + m) (List.replicate 1 (.int .u8 0)) → Below g w W ∧ ∀ i, (hi : i < r + m) → W.cell? ⟨g, i, none⟩ = some (.int .u8 ((((cutL r l).getD i 0).toNat : Nat) : Int)) ∧ W.frozen? ⟨g, i, none⟩ = false) := fun W hW => del_clear HB3.out (fun i hi => ⟨HC3.out i hi, (HF3 i (by rw [HM.out]; omega)).2⟩) hW
      generalize W3.setCells g (r + m) (List.replicate 1 (.int .u8 0)) = W4 at hclr HW4
      first | rw [← hW4] | rw [← hW3]
      have e1 : r + 1 + m - (r + m) = 1 := by omega
      clear HF3 HC3 HB3 hW3 hW4
      go_wp2
      go_ret
      obtain ⟨k1, k2⟩ := HW4.out W4 rfl
      refine ⟨by simp, k1, fun i hi => k2 i (by rw [cutL_len HM.out] at hi; exact hi)⟩
end Go.Proofs.YtpkkibnpjhlfmaaDoor
