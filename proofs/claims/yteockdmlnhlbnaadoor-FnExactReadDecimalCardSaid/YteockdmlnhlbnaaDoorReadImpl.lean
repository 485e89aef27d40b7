/-
  The walk of the program's ReadDecimal: it hands back what the text is read as.
-/
import Derived.Test.YteockdmlnhlbnaaDoorDecWalk
import Derived.Test.YteockdmlnhlbnaaDoorReadMath
import Derived.Shelf.Strconv.ErrVarParseInt
import Derived.Shelf.Strings.Prefix
import Derived.Lib.AtoiErrMem
namespace Go.Proofs.YteockdmlnhlbnaaDoor
open Go.RowKit

/-- The two errors that the library's parsers hand on: each holds a value of an interface's type, whatever is done to blocks from B on. -/
def ErrVars (B : Nat) (w : World) : Prop := ∃ tp p tq q, (∀ w', Below B w w' → w'.var? Tryd.prog "strconv.ErrSyntax" = some #[.iface tp p]) ∧ ∀ w', Below B w w' → w'.var? Tryd.prog "strconv.ErrRange" = some #[.iface tq q]
theorem ErrVars.on {B : Nat} {w w1 : World} (h : ErrVars B w) (hb : Below B w w1) : ErrVars B w1 := by
  obtain ⟨tp, p, tq, q, h1, h2⟩ := h
  exact ⟨tp, p, tq, q, fun w' h => h1 w' (hb.trans h), fun w' h => h2 w' (hb.trans h)⟩

/-- What ReadDecimal hands back. -/
def readAns (l : List UInt8) : Value := match readOf l with
  | some v => .tuple #[.int .i64 v, .bool true]
  | none => .tuple #[.int .i64 0, .bool false]
theorem ret_ans {l : List UInt8} {v : Value} (h : v = readAns l) : Ending.returned v = .returned (readAns l) := by rw [h]
theorem ans_none {l : List UInt8} (h : readOf l = none) : readAns l = .tuple #[.int .i64 0, .bool false] := by unfold readAns; rw [h]
theorem ans_some {l : List UInt8} {v : Int} (h : readOf l = some v) : readAns l = .tuple #[.int .i64 v, .bool true] := by unfold readAns; rw [h]

theorem trim_any (s : ByteArray) (w : World) : Calls Tryd.prog 13 #[.string s, .string ⟨#[45]⟩] w fun e w' => e = .returned (.string ⟨(stripM s.data.toList).toArray⟩) ∧ w = w' := by
  refine (Any.strings_TrimPrefix Tryd.lays101 s ⟨#[45]⟩ w).mono ?_
  rintro e w' ⟨rfl, rfl⟩
  refine ⟨?_, rfl⟩
  show _ = Ending.returned (.string ⟨(stripM s.data.toList).toArray⟩)
  rw [← trim_strip]

theorem parse_ok (s : ByteArray) (hs : s.size ≤ 1048576) (v : Int) (h : Lib.parseIntB 64 s.data.toList = .ok v) (w : World) :
    Calls Tryd.prog 14 #[.string s, .int .i64 10, .int .i64 64] w fun e w' => e = .returned (.tuple #[.int .i64 v, .nilIface]) ∧ Below w.heap.size w w' := by
  refine (Any.strconv_ParseInt_10_at64_ok Tryd.lays174 s (by omega) v h w).mono ?_
  rintro e w' ⟨rfl, hw⟩
  refine ⟨rfl, ?_⟩
  rcases hw with rfl | ⟨t, rfl⟩
  · exact Below.refl _ _
  · exact Lib.bytesWorld_below _ _ _
theorem parse_bad (s : ByteArray) (hs : s.size ≤ 1048576) (h : ∀ v, Lib.parseIntB 64 s.data.toList ≠ .ok v) (w : World) {B : Nat} (he : ErrVars B w) :
    Calls Tryd.prog 14 #[.string s, .int .i64 10, .int .i64 64] w fun e w' => ∃ k N, e = .returned (.tuple #[.int .i64 k, .iface 75 (.pointer (some ⟨N, 0, none⟩))]) ∧ Below w.heap.size w w' := by
  obtain ⟨tp, p, tq, q, h1, h2⟩ := he
  rcases hp : Lib.parseIntB 64 s.data.toList with v | _ | _
  · exact absurd hp (h v)
  ·
    refine (Any.strconv_ParseInt_10_at64_syntax_var Tryd.lays174 s (by omega) hp tp p w (h1 w (Below.refl _ _))).mono ?_
    rintro e w' ⟨N, rfl, _, _, hb⟩
    exact ⟨_, N, rfl, hb⟩
  ·
    refine (Any.strconv_ParseInt_10_at64_range_var Tryd.lays174 s (by omega) hp tq q w (h2 w (Below.refl _ _))).mono ?_
    rintro e w' ⟨N, rfl, _, _, hb⟩
    exact ⟨_, N, rfl, hb⟩

set_option maxRecDepth 100000 in
set_option maxHeartbeats 1000000 in
theorem implRead_any (s : ByteArray) (hs : s.size ≤ 1048576) (w : World) {B : Nat} (ht : PowTab B w) (he : ErrVars B w) (hB : B ≤ w.heap.size) :
    Calls Tryd.prog 6 #[.string s] w fun e w' => e = .returned (readAns s.data.toList) ∧ Below w.heap.size w w' := by
  by_cases hl : (stripM s.data.toList).length ≤ 18
  · have hR := readOf_parse hl
    have hlen : ¬ (18 : Int) < ((stripM s.data.toList).length : Int) := by omega
    by_cases hp : ∃ v, Lib.parseIntB 64 s.data.toList = .ok v
    · obtain ⟨v, hp⟩ := hp
      rw [hp] at hR
      simp only at hR
      obtain ⟨v0, v1⟩ := Lib.parseIntB_bounds hp
      have v0' : -9223372036854775808 ≤ v := by simpa using v0
      have v1' : v ≤ 9223372036854775807 := by have h2 : v < 9223372036854775808 := (by simpa using v1); omega
      clear v0 v1
      by_cases hi : Lib.itoa v = s.data.toList
      · rw [if_pos hi] at hR
        have HR := Lib.hid (ans_some hR)
        have es : (⟨(Lib.itoa v).toArray⟩ : ByteArray) = s := by rw [hi]
        clear hR hi
        go_enter Tryd.func6, Tryd.ntmps6
        go_wp2_with (first | (go_at_call 13; refine (trim_any s _).mono ?_; rintro e w' ⟨rfl, rfl⟩) | (go_at_call 14; refine (parse_ok s hs v hp _).mono ?_; rintro e w1 ⟨rfl, hb1⟩) | (go_at_call 15; refine (implDecimal_any v v0' v1' _ (ht.on (hb1.mono hB))).mono ?_; rintro e w2 ⟨rfl, hb2⟩))
        go_ret2
        exact ⟨ret_ans HR.out.symm, hb1.trans (hb2.mono hb1.size)⟩
      · rw [if_neg hi] at hR
        have HR := Lib.hid (ans_none hR)
        have es1 : (Lib.itoa v == s.toList) = false := by rw [ByteArray.toList_eq]; simpa using hi
        clear hR hi
        go_enter Tryd.func6, Tryd.ntmps6
        go_wp2_with (first | (go_at_call 13; refine (trim_any s _).mono ?_; rintro e w' ⟨rfl, rfl⟩) | (go_at_call 14; refine (parse_ok s hs v hp _).mono ?_; rintro e w1 ⟨rfl, hb1⟩) | (go_at_call 15; refine (implDecimal_any v v0' v1' _ (ht.on (hb1.mono hB))).mono ?_; rintro e w2 ⟨rfl, hb2⟩))
        go_ret2
        exact ⟨ret_ans HR.out.symm, hb1.trans (hb2.mono hb1.size)⟩
    · have hp' : ∀ v, Lib.parseIntB 64 s.data.toList ≠ .ok v := fun v h => hp ⟨v, h⟩
      have HR : Hid (readAns s.data.toList = .tuple #[.int .i64 0, .bool false]) := by
        refine ans_none ?_
        rw [hR]
        rcases h : Lib.parseIntB 64 s.data.toList with v | _ | _
        · exact absurd h (hp' v)
        · rfl
        · rfl
      clear hR hp
      go_enter Tryd.func6, Tryd.ntmps6
      go_wp2_with (first | (go_at_call 13; refine (trim_any s _).mono ?_; rintro e w' ⟨rfl, rfl⟩) | (go_at_call 14; refine (parse_bad s hs hp' _ he).mono ?_; rintro e w1 ⟨k, N, rfl, hb1⟩))
      go_ret2
      exact ⟨ret_ans HR.out.symm, hb1⟩
  · have HR := Lib.hid (ans_none (readOf_long hl))
    have hlen : (18 : Int) < ((stripM s.data.toList).length : Int) := by omega
    go_enter Tryd.func6, Tryd.ntmps6
    go_wp2_with (go_at_call 13; refine (trim_any s _).mono ?_; rintro e w' ⟨rfl, rfl⟩)
    go_ret2
    exact ⟨ret_ans HR.out.symm, Below.refl _ _⟩
end Go.Proofs.YteockdmlnhlbnaaDoor
