/-
  The walks of SpansOf: the model's l06Spans and SpansOf, the program's SpansOf.
-/
import Derived.Test.YtgjbahnloladfaaEndOf6
import Derived.Test.YtgjbahnloladfaaInt64SMarks
import Derived.Test.YtgjbahnloladfaaNest2
import Derived.Deep.AppendLies
namespace Go.Proofs.Ytgjbahnloladfaa
open Go.RowKit

abbrev OwLL (lo hi : Nat) (v : Value) (ts : List TInt64S) (w : World) : Prop := OwN lo hi 24 2 1 cInt64S v ts w
/-- A call hands back rows of its own. -/
def GivesRows (ts : List TInt64S) (n : Nat) (w : World) (e : Ending) (w' : World) : Prop := Below w.heap.size w w' ∧ ∃ a cap, e = .returned (.slice a n cap) ∧ OwLL w.heap.size w'.heap.size (.slice a n cap) ts w'
def GivesSpans (r : List TInt64S × Int) (w : World) (e : Ending) (w' : World) : Prop := Gv (fun lo hi v w => OwN lo hi 24 2 1 cInt64S v r.1 w) (fun v => .returned (.tuple #[v, .int .i64 r.2])) w e w'
theorem givesSpans_of {r : List TInt64S × Int} {ts : List TInt64S} {c : Int} {v : Value} {w w' : World} (h : r = (ts, c)) (hb : Below w.heap.size w w') (ho : OwLL w.heap.size w'.heap.size v ts w') : GivesSpans r w (.returned (.tuple #[v, .int .i64 c])) w' := by
  subst h
  exact ⟨hb, _, rfl, ho⟩
theorem givesSpans_nil {r : List TInt64S × Int} {c : Int} {w w' : World} (h : r = ([], c)) (hb : Below w.heap.size w w') : GivesSpans r w (.returned (.tuple #[.slice none 0 0, .int .i64 c])) w' := by
  subst h
  exact ⟨hb, _, rfl, OwN.nil _ _ _⟩
theorem rows_take {l : List Int} {t : TRun} {k : Nat} (h : k < t.1.length) : ((passOf l t).take (k + 1)).map rowOf = ((passOf l t).take k).map rowOf ++ [([t.1[k], tickAt l t.1 t.2 k, tickAt l t.1 t.2 (k + 1)], ())] := by
  rw [List.take_succ_eq_append_getElem (by rw [passOf_length]; exact h), List.map_append, passOf_get l t k h]
  rfl
/-- One row more, as it is laid: the row's three numbers in a block, the row in one of its own. -/
theorem row_grow {lo k : Nat} {v : Value} {ts : List TInt64S} {w W : World} (x y z : Int) (h : OwLL lo w.heap.size v ts w) (hlh : lo ≤ w.heap.size) (hn : ts.length = k) (hb : Below w.heap.size w W) :
    ∃ xs, ((W.alloc (.cells #[.int .i64 x, .int .i64 y, .int .i64 z] 2)).alloc (.cells #[.slice (some ⟨W.heap.size, 0, none⟩) 3 3] 24)).ownsRow lo 24 1 v k xs ∧
      ∀ (g cap : Nat) (w' : World), w'.ownsRow lo 24 1 (.slice (some ⟨g, 0, none⟩) (k + 1) cap) (k + 1) (xs ++ [.slice (some ⟨W.heap.size, 0, none⟩) 3 3]) → ((W.alloc (.cells #[.int .i64 x, .int .i64 y, .int .i64 z] 2)).alloc (.cells #[.slice (some ⟨W.heap.size, 0, none⟩) 3 3] 24)).grownBy w' v.ownBlock →
        (v.ownBlock = some g ∨ g = ((W.alloc (.cells #[.int .i64 x, .int .i64 y, .int .i64 z] 2)).alloc (.cells #[.slice (some ⟨W.heap.size, 0, none⟩) 3 3] 24)).heap.size) → g < w'.heap.size → OwLL lo w'.heap.size (.slice (some ⟨g, 0, none⟩) (k + 1) cap) (ts ++ [([x, y, z], ())]) w' ∧ Below lo w w' := by
  have hb2 : Below w.heap.size w ((W.alloc (.cells #[.int .i64 x, .int .i64 y, .int .i64 z] 2)).alloc (.cells #[.slice (some ⟨W.heap.size, 0, none⟩) 3 3] 24)) := (hb.alloc hb.size _).alloc (by have := hb.size; simp; omega) _
  exact OwN.grow2 (c := cInt64S) h hlh hn hb2 (.slice (some ⟨W.heap.size, 0, none⟩) 3 3) ([x, y, z], ()) ((World.ownsRow_lit (size := 1) W #[.int .i64 x, .int .i64 y, .int .i64 z] 3 hb.size (by unfold maxLen; omega) rfl).alloc _)

set_option maxHeartbeats 4000000 in
theorem l06Spans_any (pb po : Nat) (a b : Option Addr) (l way : List Int) (s : Int) (n ca m cb : Nat) (w : World) (hn : Hid (l.length = n)) (ha : RI w a l) (hm : Hid (way.length = m)) (hb : RI w b way) (hok : RunOk l way s)
    (p0 : w.cell? ⟨pb, po, none⟩ = some (.slice b m cb)) (p1 : w.cell? ⟨pb, po + 1, none⟩ = some (.int .i64 s)) :
    Calls Try.prog 52 #[.slice a n ca, .pointer (some ⟨pb, po, none⟩)] w (GivesRows ((passOf l (way, s)).map rowOf) m w) := by
  have hpb := World.block_lt_of_cell? w _ p0
  simp only at hpb
  have HA := Lib.hid ha
  have HB := Lib.hid hb
  have HP := Lib.hid (And.intro p0 p1)
  have hmax : m ≤ 12 := by have := hok.ways; rw [hm.out] at this; omega
  have hmaxn : n ≤ 24 := by have := hok.len; rw [hn.out] at this; omega
  have HOK := Lib.hid hok
  have HI : Hid (∃ i0 : TypeInfo, Try.prog.info? 24 = some i0 ∧ i0.zero = some (.slice none 0 0) ∧ i0.size = 1 ∧ i0.bytes = 24) := info_parts info24
  clear ha hb hok
  go_enter Try.func52, Try.ntmps52
  have q1 : (w.alloc (.cells #[] 24)).cell? ⟨pb, po + 1, none⟩ = some (.int .i64 s) := (((Below.refl _ _).alloc (Nat.le_refl _) _).cell (p := ⟨pb, po + 1, none⟩) hpb).trans p1
  go_wp2
  clear q1 p0 p1
  go_loopw [5, 6, 7] (fun ov ev iv wr => ∃ (k : Nat) (ao : Option Addr) (co : Nat), k ≤ m ∧ iv = .int .i64 k ∧ ev = .int .i64 (tickAt l way s k) ∧ ov = .slice ao k co ∧ Below w.heap.size w wr ∧ Hid (OwLL w.heap.size wr.heap.size (.slice ao k co) (((passOf l (way, s)).take k).map rowOf) wr)) (fun _ _ iv _ => m - (intOf iv).toNat)
  case atStart => exact ⟨0, _, _, by omega, rfl, by rw [tickAt_zero], rfl, (Below.refl _ _).alloc (Nat.le_refl _) _, Lib.hid (by simpa using OwN.made w #[] rfl)⟩
  case round =>
    obtain ⟨k, ao, co, hk, rfl, rfl, rfl, hbel, HO⟩ := hrel
    have htk := HOK.out.tick k (by rw [hm.out]; exact hk)
    have hbw := hbel.size
    have q0 := (hbel.cell (p := ⟨pb, po, none⟩) hpb).trans HP.out.1
    by_cases hlt : k < m
    · have hka : k < way.length := by rw [hm.out]; exact hlt
      have HS := Lib.hid (tickAt_succ l way s k hka)
      have HTK := rows_take (l := l) (t := (way, s)) (k := k) hka
      dsimp only at HTK
      rw [HS.out] at HTK
      have HKL : Hid ((((passOf l (way, s)).take k).map rowOf).length = k) := by unfold Hid; rw [List.length_map, List.length_take, passOf_length]; dsimp only; omega
      obtain ⟨hx, htm, ht1, ht2⟩ := HOK.out.tm_at k hka
      obtain ⟨bb, ob, rfl, hbb, x1⟩ := HB.out.at_ k hka
      obtain ⟨ba, oa, rfl, hba, y1⟩ := HA.out.at_ _ hx
      rw [← htm] at y1
      rw [← hbel.cell (p := ⟨_, _, none⟩) hbb] at x1
      rw [← hbel.cell (p := ⟨_, _, none⟩) hba] at y1
      have hw0 := (HOK.out.tube k hka).1
      have hlx : way[k].toNat < n := by rw [← hn.out]; exact hx
      clear htm hx
      generalize htt : tm l way[k] = tt at y1 ht1 ht2 HS HTK
      clear htt
      generalize way[k] = x at x1 y1 hw0 hlx HTK
      obtain ⟨xn, rfl⟩ : ∃ xn : Nat, x = xn := ⟨x.toNat, by omega⟩
      rw [Int.toNat_natCast] at y1 hlx
      generalize tickAt l way s k = tk at htk HS HTK
      have HAPP := Lib.hid (row_grow (W := wr) (xn : Int) tk (tk + tt) HO.out hbw HKL.out (Below.refl _ _))
      rw [← HTK] at HAPP
      have hk0 : (0 : Int) ≤ (k : Int) := by omega
      have hk1 : (k : Int) < (m : Int) := by omega
      have hx0 : (0 : Int) ≤ (xn : Int) := by omega
      have hx1 : (xn : Int) < (n : Int) := by omega
      have HBEL := Lib.hid hbel
      clear hbel HTK
      obtain ⟨xs, hox, hnext⟩ := HAPP.out
      have HOX := Lib.hid hox
      have HNX := Lib.hid hnext
      clear hox hnext HAPP
      go_wp2_with (at_builtin; refine wpList_append_lies _ rfl _ _ 30 rfl w.heap.size 24 HI.out.choose (.slice none 0 0) 1 24 Try.underlying30 HI.out.choose_spec.1 HI.out.choose_spec.2.1 HI.out.choose_spec.2.2.1 HI.out.choose_spec.2.2.2 rfl (by decide) (.slice ao k co) k xs rfl HOX.out ⟨wr.heap.size + 1, 0, none⟩ 1 1 [.slice (some ⟨wr.heap.size, 0, none⟩) 3 3] rfl rfl (World.news_of_block (heap_alloc_at _ _ _ (by simp))) (by intro u hu; simp at hu; subst hu; rfl) (by decide) (by unfold maxLen; omega) (by omega) (by simp; omega) _ rfl ?_)
      intro g2 cap w5 hown1 hgrow hat hlt5
      obtain ⟨hN, hB5⟩ := HNX.out g2 cap w5 hown1 hgrow (by simpa using hat) hlt5
      have HN5 := Lib.hid hN
      have HB5 := Lib.hid (HBEL.out.trans hB5)
      clear hown1 hgrow hat hlt5 hN hB5 q0 x1 y1
      go_wp2
      go_roundw
      case rel => exact ⟨k + 1, _, _, by omega, by go_num, by rw [HS.out], rfl, HB5.out, HN5.out⟩
      case measure => simp [intOf]; omega
    · have hkm : k = m := by omega
      subst hkm
      have HR : Hid (GivesRows ((passOf l (way, s)).map rowOf) k w (.returned (.slice ao k co)) wr) := ⟨hbel, _, _, rfl, by
        have := HO.out
        rw [List.take_of_length_le (by rw [passOf_length]; dsimp only; rw [hm.out]; omega)] at this
        exact this⟩
      go_wp2
      go_ret
      exact HR.out

set_option maxHeartbeats 4000000 in
theorem specSpansOf_any (w : World) {a0 : Option Addr} {n0 c0 : Nat} (l0 : List Int) (hn0 : Hid (l0.length = n0)) (h0 : RI w a0 l0) (hs0 : n0 ≤ 1048576) (_wf0 : Hid (∀ k ∈ l0, (Lit.int .i64 k).wf = true)) {a1 : Option Addr} {n1 c1 : Nat} (t1 : TRun) (hn1 : Hid (t1.1.length = n1)) (h1 : RI w a1 t1.1) (hs1 : n1 ≤ 1048576) (_wf1 : Hid (wfRun t1)) :
    Calls Try.prog 17 #[.slice a0 n0 c0, .agg #[.slice a1 n1 c1, .int .i64 t1.2]] w (GivesSpans (spansOf l0 t1) w) := by
  obtain ⟨way, s⟩ := t1
  dsimp only at hn1 h1 ⊢
  have HA : Hid (∀ w', Below w.heap.size w w' → RI w' a0 l0) := fun w' h => h0.below h
  have HB : Hid (∀ w', Below w.heap.size w w' → RI w' a1 way) := fun w' h => h1.below h
  have OK : Hid (∀ W B, Below w.heap.size w W → B = W.heap.size → Calls Try.prog 51 #[.slice a0 n0 c0, .slice (some ⟨B, 0, none⟩) 1 1] (W.alloc (.cells #[.slice a1 n1 c1, .int .i64 s] 34)) fun e w' => e = .returned (.bool (rsB l0 [(way, s)])) ∧ (W.alloc (.cells #[.slice a1 n1 c1, .int .i64 s] 34)) = w') := fun W B h hB => by
    subst hB
    exact l06Ok_any a0 _ l0 [(way, s)] n0 c0 1 1 _ hn0 (HA.out _ (h.alloc h.size _)) hs0 rfl (RN.one hn1.out (HB.out _ h) hs1 _) (by omega)
  clear h0 h1
  cases hv : rsB l0 [(way, s)] with
  | false =>
    rw [hv] at OK
    have HR := Lib.hid (spansOf_bad hv)
    clear hv
    go_enter Try.func17, Try.ntmps17
    go_wp2_with (go_at_call 51; refine (OK.out (w.alloc (.cells #[.slice a1 n1 c1, .int .i64 s] 34)) _ (by repeat (first | exact Below.refl _ _ | refine Below.alloc ?_ (by simp; try omega) _ | refine Below.setCell ?_ (by simp; try omega) _)) (by simp)).mono ?_; rintro e w' ⟨rfl, rfl⟩)
    go_ret2
    exact givesSpans_nil HR.out (by repeat (first | exact Below.refl _ _ | refine Below.alloc ?_ (by simp; try omega) _ | refine Below.setCell ?_ (by simp; try omega) _))
  | true =>
    rw [hv] at OK
    have HR := Lib.hid (spansOf_good hv)
    have HOK := Lib.hid (rsB_one hv)
    clear hv
    go_enter Try.func17, Try.ntmps17
    go_wp2_with (go_at_call 51; refine (OK.out (w.alloc (.cells #[.slice a1 n1 c1, .int .i64 s] 34)) _ (by repeat (first | exact Below.refl _ _ | refine Below.alloc ?_ (by simp; try omega) _ | refine Below.setCell ?_ (by simp; try omega) _)) (by simp)).mono ?_; rintro e w' ⟨rfl, rfl⟩)
    refine (l06Spans_any _ 0 a0 a1 l0 way s n0 c0 n1 c1 _ hn0 (HA.out _ (by repeat (first | exact Below.refl _ _ | refine Below.alloc ?_ (by simp; try omega) _ | refine Below.setCell ?_ (by simp; try omega) _))) hn1 (HB.out _ (by repeat (first | exact Below.refl _ _ | refine Below.alloc ?_ (by simp; try omega) _ | refine Below.setCell ?_ (by simp; try omega) _))) HOK.out (by simp [go_sem]) (by simp [go_sem])).mono ?_
    rintro e w2 ⟨hb2, ao, co, rfl, ho2⟩
    have HB2 := Lib.hid (Below.trans (by repeat (first | exact Below.refl _ _ | refine Below.alloc ?_ (by simp; try omega) _ | refine Below.setCell ?_ (by simp; try omega) _)) (hb2.mono (by simp; omega)) : Below w.heap.size w w2)
    have HO2 := Lib.hid (OwN.widen (lo' := w.heap.size) (hi' := w2.heap.size) ho2 (by simp; omega) (Nat.le_refl _))
    clear hb2 ho2
    go_wp2
    go_ret2
    exact givesSpans_of (v := .slice ao n1 co) HR.out HB2.out HO2.out
end Go.Proofs.Ytgjbahnloladfaa
