/-
  The draws of words and addresses.
-/
import Derived.Test.YtpkkibnpjhlfmaaDoorSrc
import Derived.Test.YtpkkibnpjhlfmaaDoorAllWords
import Derived.Test.YtpkkibnpjhlfmaaDoorAdrOk
import Derived.Deep.RegionHeld3
import Derived.Deep.RegionLaw
namespace Go.Proofs.YtpkkibnpjhlfmaaDoor
open Go.RowKit

theorem infoU8 : (Tryd.prog.info? 5).map (fun i => (i.zero, i.size, i.bytes)) = some (some (.int .u8 0), 1, 1) := by kernel_rfl
def byV (b : UInt8) : Value := .int .u8 (b.toNat : Int)
theorem u8_byte (x : Int) : ∃ b : UInt8, x % 256 = (b.toNat : Int) := by
  refine ⟨UInt8.ofNat (x % 256).toNat, ?_⟩
  have h : (UInt8.ofNat (x % 256).toNat).toNat = (x % 256).toNat := by
    rw [UInt8.toNat_ofNat']
    omega
  rw [h]
  omega
/-- A source, and what a call that draws from it leaves: its block alone has turned. -/
def DrawnT (B g K m : Nat) (w : World) (e : Ending) (w' : World) : Prop := ∃ x : ByteArray, e = .returned (.string x) ∧ x.size ≤ m ∧ Src B g K w' ∧ w.grownBy w' (some g)
theorem gb_alloc {a b : World} {g : Nat} (h : a.grownBy b (some g)) (o : Obj) : a.grownBy (b.alloc o) (some g) :=
  ⟨h.os, h.tape, h.output, by have := h.size; simp; omega, fun i hi hne => (Below.heap_alloc b o i (Nat.lt_of_lt_of_le hi h.size)).trans (h.block i hi hne)⟩
/-- Behind a step that turns one block of the call's own. -/
theorem gb_own {a b c : World} {g : Nat} {row : Option Nat} (h : a.grownBy b (some g)) (k : b.grownBy c row) (hr : ∀ q, row = some q → a.heap.size ≤ q) : a.grownBy c (some g) :=
  ⟨k.os.trans h.os, k.tape.trans h.tape, k.output.trans h.output, Nat.le_trans h.size k.size, fun i hi hne => (k.block i (Nat.lt_of_lt_of_le hi h.size) (by rintro rfl; have := hr i rfl; omega)).trans (h.block i hi hne)⟩
theorem gb_below {a b c : World} {g : Nat} (h : a.grownBy b (some g)) (k : Below b.heap.size b c) : a.grownBy c (some g) :=
  ⟨k.os.trans h.os, k.tape.trans h.tape, k.output.trans h.output, Nat.le_trans h.size k.size, fun i hi hne => (k.block i (Nat.lt_of_lt_of_le hi h.size)).trans (h.block i hi hne)⟩
theorem Src.own {B g K lo : Nat} {w w' : World} {row : Option Nat} (hs : Src B g K w) (hg : w.grownBy w' row) (hr : ∀ q, row = some q → lo ≤ q) (hlo : g < lo) : Src B g K w' := by
  cases row with
  | none => exact hs.below ⟨hg.os, hg.tape, hg.output, hg.size, fun k hk => hg.block k hk (by simp)⟩
  | some q => exact hs.other hg (by have := hr q rfl; omega)

set_option maxRecDepth 100000 in
set_option maxHeartbeats 4000000 in
theorem drawWord_any (B g K : Nat) (m r : Int) (hm : m ≤ 9223372036854775807) (hr : r ≤ 20) (w : World) (hK : K < 100000000) (h : Src B g K w) :
    Calls Tryd.prog 42 #[.pointer (some ⟨g, 0, none⟩), .int .i64 m, .int .i64 r] w (DrawnT B g (K + 40) 20 w) := by
  have HI : Hid (∃ i0 : TypeInfo, Tryd.prog.info? 5 = some i0 ∧ i0.zero = some (.int .u8 0) ∧ i0.size = 1 ∧ i0.bytes = 1) := info_parts infoU8
  have HS := Lib.hid h
  have hgl := h.lt
  clear h
  go_enter Tryd.func42, Tryd.ntmps42
  go_wp2
  go_loopw [7, 8] (fun q kv wr => ∃ (k b c : Nat) (bs : List UInt8), k ≤ 20 ∧ (k : Int) ≤ max r 0 ∧ kv = .int .i64 (k : Int) ∧ q = .slice (some ⟨b, 0, none⟩) k c ∧ Hid (bs.length = k) ∧ Hid (Src B g (K + 2 * k) wr) ∧ Hid (w.grownBy wr (some g)) ∧ Hid (wr.ownsRow w.heap.size 5 1 (.slice (some ⟨b, 0, none⟩) k c) k (bs.map byV))) (fun _ kv _ => 20 - (intOf kv).toNat)
  case atStart => exact ⟨0, _, _, [], by omega, by omega, rfl, rfl, rfl, HS.out.below (by repeat (first | exact Below.refl _ _ | refine Below.alloc ?_ (by simp; try omega) _ | refine Below.setCell ?_ (by simp; try omega) _)), gb_alloc (grown_refl _ _) _, by unfold Hid; simpa using World.ownsRow_made w #[] 0 (Nat.le_refl _) (by unfold maxLen; omega) rfl⟩
  case round =>
    obtain ⟨k, b, c, bs, hk, hkr, rfl, rfl, HN, HS1, HG, HO⟩ := hrel
    by_cases hlt : (k : Int) < r
    · have HP := pick_any B g (K + 2 * k) m hm wr (by omega) HS1.out
      have hgw := HS1.out.lt
      go_wp2_with fail
      refine HP.mono ?_
      rintro e w1 ⟨x, rfl, ⟨hx0, hx2, hx1⟩, hs, hg⟩
      obtain ⟨bd, hbd⟩ := u8_byte (97 + x)
      have HGE : Hid (∀ q, (Value.slice (some ⟨b, 0, none⟩) k c).ownBlock = some q → w.heap.size ≤ q) := fun q hq => (HO.out.lt q hq).1
      have HO1 : Hid (w1.ownsRow w.heap.size 5 1 (.slice (some ⟨b, 0, none⟩) k c) k (bs.map byV)) := HO.out.kept hg (.inr (fun e => by have := HGE.out g e; omega))
      have HG1 := Lib.hid (gb_trans HG.out hg)
      have HS2 := Lib.hid hs
      have HBD := Lib.hid hbd
      have hs1 : w.heap.size ≤ w1.heap.size := HG1.out.size
      generalize hxs : bs.map byV = xs at HO1
      have HXS := Lib.hid hxs
      clear hs hg hxs hx1 hbd
      go_wp2_with (at_builtin; refine wpList_append_lies _ rfl _ _ 22 rfl w.heap.size 5 HI.out.choose (.int .u8 0) 1 1 Tryd.underlying22 HI.out.choose_spec.1 HI.out.choose_spec.2.1 HI.out.choose_spec.2.2.1 HI.out.choose_spec.2.2.2 rfl (by decide) (.slice (some ⟨b, 0, none⟩) k c) k xs rfl (HO1.out.alloc _) ⟨w1.heap.size, 0, none⟩ 1 1 [byV bd] rfl rfl ?_ (by intro u hu; simp at hu; subst hu; rfl) (by omega) (by unfold maxLen; omega) (by omega) (by simp; omega) _ rfl ?_; (next => (intro j u hj; match j, hj with | 0, hj => (simp at hj; subst hj; unfold byV; rw [← HBD.out]; simp [Addr.add, go_sem]))))
      intro g' cap' w5 hown1 hgrow hat hlt2
      have G5 : Hid (w.grownBy w5 (some g)) := gb_own (gb_alloc HG1.out _) hgrow HGE.out
      have S5 : Hid (Src B g (K + 2 * k + 2) w5) := (HS2.out.below (by repeat (first | exact Below.refl _ _ | refine Below.alloc ?_ (by simp; try omega) _ | refine Below.setCell ?_ (by simp; try omega) _))).own hgrow HGE.out hgl
      have O5 : Hid (w5.ownsRow w.heap.size 5 1 (.slice (some ⟨g', 0, none⟩) (k + 1) cap') (k + 1) ((bs ++ [bd]).map byV)) := by
        unfold Hid; rw [List.map_append, HXS.out]; exact hown1
      have N5 : Hid ((bs ++ [bd]).length = k + 1) := by unfold Hid; rw [List.length_append, HN.out]; rfl
      clear hown1 hgrow hat hlt2
      go_wp2
      go_roundw
      case rel => exact ⟨k + 1, g', cap', bs ++ [bd], by omega, by omega, by go_num, rfl, N5.out, S5.out, G5.out, O5.out⟩
      case measure => simp [intOf]; omega
    · have HCV := run_convert_bytes_back (P := Tryd.prog) wr 22 9 5 ⟨b, 0, none⟩ c bs Tryd.underlying22 Tryd.underlying5 Tryd.underlying9 (fun j hj => HO.out.cells (g := b) rfl j _ (by rw [List.getElem?_map, List.getElem?_eq_getElem hj]; rfl))
      rw [HN.out] at HCV
      have HS3 : Hid (Src B g (K + 40) wr) := HS1.out.more (by omega)
      have hz : (⟨bs.toArray⟩ : ByteArray).size ≤ 20 := by show bs.toArray.size ≤ 20; simp; have := HN.out; omega
      go_wp2
      go_ret
      exact ⟨_, rfl, hz, HS3.out, HG.out⟩
end Go.Proofs.YtpkkibnpjhlfmaaDoor
