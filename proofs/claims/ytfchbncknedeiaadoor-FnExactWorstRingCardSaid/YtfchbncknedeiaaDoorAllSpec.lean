/-
  The walks of all words: the model's l05Whole, l05Code, l05All.
-/
import Derived.Test.YtfchbncknedeiaaDoorAllWords
import Derived.Deep.RegionHeld3
import Derived.Deep.RegionLaw
namespace Go.Proofs.YtfchbncknedeiaaDoor
open Go.RowKit

/-- A byte that the call lays, as a text. -/
theorem byte_text (h : Nat) (x : Int) (bd : UInt8) (hb : Value.int .u8 x = Value.int .u8 (bd.toNat : Int)) (W : World) (hc : W.cell? ⟨h, 0, none⟩ = some (.int .u8 x)) :
    (convert 32 9 (.slice (some ⟨h, 0, none⟩) 1 1)).run Tryd.prog W = .ok (.string ⟨[bd].toArray⟩) W :=
  run_convert_bytes_back (P := Tryd.prog) W 32 9 5 ⟨h, 0, none⟩ 1 [bd] Tryd.underlying32 Tryd.underlying5 Tryd.underlying9 (fun j hj => by
    have : j = 0 := by simp at hj; omega
    subst this
    rw [show (⟨h, 0, none⟩ : Addr).add 0 = ⟨h, 0, none⟩ by simp [Addr.add], hc, hb]; rfl)
theorem letter_byte {c : Nat} (h : c < 4) : Value.int .u8 (IntKind.u8.wrap (IntKind.i64.wrap ((97 : Int) + (c : Int)))) = Value.int .u8 (((UInt8.ofNat (97 + c)).toNat : Nat) : Int) := by
  have : c = 0 ∨ c = 1 ∨ c = 2 ∨ c = 3 := by omega
  rcases this with rfl | rfl | rfl | rfl <;> exact congrArg (Value.int .u8) (by decide +kernel)

end Go.Proofs.YtfchbncknedeiaaDoor
