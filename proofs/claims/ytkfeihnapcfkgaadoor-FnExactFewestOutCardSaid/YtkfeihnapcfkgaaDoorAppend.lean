/-
  Appends to an empty slice of one's own: 'append([]T{}, xs...)', whatever xs holds.
-/
import Derived.Test.YtkfeihnapcfkgaaDoorMem
import Derived.Deep.AppendLies
import Derived.Outline
namespace Go.Proofs.YtkfeihnapcfkgaaDoor
open Go.RowKit
theorem wpList_append_clone {P : Program} (w : World) {ops : Array Oper} {rest : List Oper} {o : Oper} {a : Act} {Q : Exit → Act → World → Prop} (hgd : o.guard = none) (s x : Operand) (t : TypeId)
    (ho : o.op = .call { callee := .builtin .append, args := #[s, x], argTypes := #[t, t] })
    (base : Nat) (e : TypeId) (i : TypeInfo) (z : Value) (size bytes : Nat) (ht : P.underlying t = some (.slice e)) (hi : P.info? e = some i) (hz : i.zero = some z)
    (hsize : i.size = size) (hby : i.bytes = bytes) (hzs : z.cells.size = size) (hsz : 0 < size)
    (g0 : Nat) (hs : a.eval s = .slice (some ⟨g0, 0, none⟩) 0 0) (hown : w.ownsRow base e size (.slice (some ⟨g0, 0, none⟩) 0 0) 0 [])
    (ad : Addr) (m c : Nat) (news : List Value) (hx : a.eval x = .slice (some ad) m c) (hl : news.length = m * size) (hnews : ∀ j u, news[j]? = some u → w.cell? (ad.add j) = some u) (h1 : ∀ u ∈ news, u.oneCell' = true)
    (h63 : m ≤ maxLen) (hbytes : m * bytes ≤ 140737488355328) (hbase : base ≤ w.heap.size)
    (h : ∀ g cap w', w'.ownsRow base e size (.slice (some ⟨g, 0, none⟩) m cap) m news → w.grownBy w' (some g0) → (g = g0 ∨ g = w.heap.size) → wpList P ops Q rest (a.put o.dst (.slice (some ⟨g, 0, none⟩) m cap)) w') : wpList P ops Q (o :: rest) a w := by
  by_cases hm : m = 0
  · subst hm
    have hn : news = [] := List.eq_nil_of_length_eq_zero (by simpa using hl)
    subst hn
    exact wpList_append_fits_any w hgd s x t ho base e i size ht hi hsize g0 0 0 [] hs hown (some ad) 0 c [] hx (by simp) (by simp) (fun _ _ j u hj => by simp at hj) (fun u hu => by simp at hu) (by omega) (fun w' h2 h3 => h g0 0 w' h2 h3 (.inl rfl))
  · exact wpList_append_lies w hgd s x t ho base e i z size bytes ht hi hz hsize hby hzs hsz _ 0 [] hs hown ad m c news hx hl hnews h1 (by omega) (by omega) (by simpa using hbytes) hbase _ rfl
      (fun g cap w' h2 h3 h4 _ => by
        rw [Nat.zero_add] at h2 ⊢
        refine h g cap w' h2 h3 ?_
        rcases h4 with h4 | h4
        · injection h4 with h4; exact .inl h4.symm
        · exact .inr h4)
end Go.Proofs.YtkfeihnapcfkgaaDoor
