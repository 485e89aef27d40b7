/-
  The walk of the law FnExactReadDecimal: it returns true at every text, where the library's variables that its parser reads hold what the library's text lays.
-/
import Derived.Test.YteockdmlnhlbnaaDoorReadSpec
import Derived.Test.YteockdmlnhlbnaaDoorLawDecimal
namespace Go.Proofs.YteockdmlnhlbnaaDoor
open Go.RowKit Go.ChangeShapes Go.WideShapes
theorem gErrS : Tryd.prog.globalNamed "strconv.ErrSyntax" = some 0 := by kernel_rfl
theorem gErrSType : (Tryd.prog.globals[0]?).map (·.type) = some 34 := by kernel_rfl
theorem gErrR : Tryd.prog.globalNamed "strconv.ErrRange" = some 1 := by kernel_rfl
theorem gErrRType : (Tryd.prog.globals[1]?).map (·.type) = some 34 := by kernel_rfl
theorem cellsErr : Tryd.prog.cellsOf 104 = 1 := by kernel_rfl
theorem cellsStr : Tryd.prog.cellsOf 9 = 1 := by kernel_rfl
theorem starErr : "*" ++ "errors.errorString" = "*errors.errorString" := by decide
theorem rowErr (u : TypeId) (h : Tryd.prog.typeName? 3 u = some "*errors.errorString") : u = 102 :=
  typeName_ptr_named (nm := "errors.errorString") (by rw [starErr]; kernel_rfl) (by kernel_rfl) (by decide) u (by rw [starErr]; exact h)
theorem var_below {w : World} {name : String} {x : Array Value} (h : w.var? Tryd.prog name = some x) : ∀ w', Below w.heap.size w w' → w'.var? Tryd.prog name = some x := fun w' hb => by
  unfold World.var? at *
  cases hg : Tryd.prog.globalNamed name with
  | none => simp [hg] at h
  | some g =>
    simp only [hg, Option.bind_some] at h ⊢
    have hlt : g < w.heap.size := by
      rcases Nat.lt_or_ge g w.heap.size with h' | h'
      · exact h'
      · rw [Array.getElem?_eq_none h'] at h; simp at h
    rw [hb.block g hlt]
    exact h
theorem errs_of_laid {W : World} {rest : List (String × DataW Unit)} (h : laidMet Tryd.prog (("strconv.ErrRange", Rows.laid_strconv_ErrRange) :: ("strconv.ErrSyntax", Rows.laid_strconv_ErrSyntax) :: rest) W) : ErrVars W.heap.size W := by
  obtain ⟨a1, s1, hv1, -, -, -⟩ := laid_sentinel h gErrR gErrRType Tryd.underlying34 rowErr Tryd.underlying102 Tryd.underlying104 rfl rfl Tryd.underlying9 cellsErr cellsStr
  obtain ⟨a0, s0, hv0, -, -, -⟩ := laid_sentinel (laidMet.tail h) gErrS gErrSType Tryd.underlying34 rowErr Tryd.underlying102 Tryd.underlying104 rfl rfl Tryd.underlying9 cellsErr cellsStr
  exact ⟨_, _, _, _, var_below hv0, var_below hv1⟩

theorem ans_shape (l : List UInt8) : ∃ x y, readAns l = .tuple #[.int .i64 x, .bool y] := by
  unfold readAns
  split
  · exact ⟨_, _, rfl⟩
  · exact ⟨_, _, rfl⟩
namespace fnExactReadDecimal
theorem walk {w : World} (s : ByteArray) (_ws : s.size ≤ maxLen) (hL : laidMetH Tryd.prog Rows.fnExactReadDecimalRow.laid w) :
    Calls Tryd.prog 3 #[.string s] w fun e w' => e = .returned (.bool true) ∧ Below w.heap.size w w' := by
  rw [MakeChecks.laidMetH_plain _ _ _ (by kernel_rfl)] at hL
  have ht : PowTab w.heap.size w := pow_of_laid (laidMet.tail (laidMet.tail hL))
  have he : ErrVars w.heap.size w := errs_of_laid (laidMet.tail (laidMet.tail (laidMet.tail hL)))
  have HT := Lib.hid ht
  have HE := Lib.hid he
  clear ht he hL
  by_cases hs : s.size ≤ 1048576
  · have hs' : ¬ (1048576 : Int) < (s.size : Int) := by omega
    obtain ⟨x, y, hxy⟩ := ans_shape s.data.toList
    have HX := Lib.hid hxy
    clear hxy
    go_enter Tryd.func3, Tryd.ntmps3
    go_wp2_with (first | (go_at_call 5; refine (specRead_any s hs _).mono ?_; rintro e w1 ⟨he1, hb1⟩; rw [HX.out] at he1; subst he1) | (go_at_call 6; refine (implRead_any s hs _ (HT.out.on hb1) (HE.out.on hb1) hb1.size).mono ?_; rintro e w2 ⟨he2, hb2⟩; rw [HX.out] at he2; subst he2))
    go_ret
    exact ⟨rfl, hb1.trans (hb2.mono hb1.size)⟩
  · have hs' : (1048576 : Int) < (s.size : Int) := by omega
    go_enter Tryd.func3, Tryd.ntmps3
    go_wp2
    go_ret
    exact ⟨rfl, Below.refl _ _⟩
end fnExactReadDecimal
end Go.Proofs.YteockdmlnhlbnaaDoor
