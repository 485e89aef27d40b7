/-
  Blowers: SetText: the writer of texts (strings.Builder) at this seat, the model's walk and the program's.
-/
import Derived.Test.YtiilgeoahpnkpaaBlow5
import Derived.Test.YtiilgeoahpnkpaaShelf
import Derived.Shelf.Strings.BuilderK
import Derived.Laws.Concat
namespace Go.Proofs.Ytiilgeoahpnkpaa
open Go.RowKit Go.Shelf

theorem xb169 : Builder.Extra Try.prog Try.lays169_ren where
  sizeBuilder := by kernel_rfl
  liesBuilder := by kernel_rfl
  t5 := Try.underlying5
  a5 := Try.isAgg5
  z5 := Try.sizeOf5
  v5 := Try.zeroValue5
  infoByte := by kernel_rfl
  cellsByte := by kernel_rfl
  sizeByte := by kernel_rfl
  neB5 := by decide
/-- A builder in block b, of which the bytes so far are these. -/
def Bldr (B b : Nat) (l : List UInt8) (w : World) : Prop := Lib.IsBuilderF 92 5 B b (Lib.byteCells l) w
theorem cells_len (l : List UInt8) : (Lib.byteCells l).length = l.length := by simp [Lib.byteCells]
theorem sizeB : ∃ j, Try.prog.info? 92 = some j ∧ j.size = 2 := Option.map_eq_some_iff.1 (by kernel_rfl : (Try.prog.info? 92).map (·.size) = some 2)
set_option maxHeartbeats 1000000 in
set_option maxRecDepth 100000 in
theorem checkUsed (b : Nat) (w : World) (h0 : w.cell? ⟨b, 0, none⟩ = some (.pointer (some ⟨b, 0, none⟩))) :
    Calls Try.prog 106 #[.pointer (some ⟨b, 0, none⟩)] w fun e w' => e = .returned (.tuple #[]) ∧ w' = w := by
  obtain ⟨j, hj, _⟩ := sizeB
  go_enter Try.func106, Try.ntmps106
  go_wp2
  rw [Lib.run_neq_ptr_same w _ Try.underlying90 hj]
  go_wp2
  go_end0
  exact ⟨rfl, rfl⟩
set_option maxHeartbeats 1000000 in
set_option maxRecDepth 100000 in
theorem checkFresh (b : Nat) (w : World) (h0 : w.cell? ⟨b, 0, none⟩ = some (.pointer none)) (hsh : w.shape? b = some (92, 2)) (hfz : w.frozen? ⟨b, 0, none⟩ = false) :
    Calls Try.prog 106 #[.pointer (some ⟨b, 0, none⟩)] w fun e w' => e = .returned (.tuple #[]) ∧ w' = w.setCell ⟨b, 0, none⟩ (.pointer (some ⟨b, 0, none⟩)) := by
  obtain ⟨j, hj, hjs⟩ := sizeB
  go_enter Try.func106, Try.ntmps106
  go_wp2
  rw [Lib.run_to_unsafe w ⟨b, 0, none⟩ Try.underlying90 Try.underlying122 hj (by rw [hjs]; decide) hsh (Nat.zero_lt_succ 1)]
  simp only [Result.andThen]
  rw [Oper.upon_value]
  go_wp2
  rw [run_callFunc_extern Try.func109 (by kernel_rfl) (by kernel_rfl) (by kernel_rfl) (e := Extern.AbiNoEscape.same) (by kernel_rfl)]
  rw [Lib.run_noEscape]
  simp only [Result.andThen]
  rw [Oper.upon_value]
  go_wp2
  rw [Lib.run_from_unsafe w ⟨b, 0, none⟩ Try.underlying122 Try.underlying90 hj hsh (by kernel_rfl)]
  simp only [Result.andThen]
  rw [Oper.upon_value]
  go_wp2
  go_end0
  exact ⟨rfl, rfl⟩
/-- A builder that has been written to. -/
abbrev Wrote (B b : Nat) (bs : List Value) (w : World) : Prop := Lib.BuilderAtF 92 5 B b (.pointer (some ⟨b, 0, none⟩)) bs w
theorem check_any (B b : Nat) (bs : List Value) (w : World) (h : Lib.IsBuilderF 92 5 B b bs w) :
    Calls Try.prog 106 #[.pointer (some ⟨b, 0, none⟩)] w fun e w' => e = .returned (.tuple #[]) ∧ Wrote B b bs w' ∧ Below B w w' ∧ Lib.OthersKept 5 (some b) w w' := by
  rcases h with h | h
  · refine (checkFresh b w h.cell0 h.shape h.frozen0).mono ?_
    rintro e w' ⟨rfl, rfl⟩
    exact ⟨rfl, h.used _, (Below.refl B w).setCell (p := ⟨b, 0, none⟩) h.1 _, (Lib.OthersKept.refl _ _ w).setCell ⟨b, 0, none⟩ rfl _⟩
  · refine (checkUsed b w h.cell0).mono ?_
    rintro e w' ⟨rfl, rfl⟩
    exact ⟨rfl, h, Below.refl B _, Lib.OthersKept.refl _ _ _⟩
theorem infoB : ∃ i0 : TypeInfo, Try.prog.info? 5 = some i0 ∧ i0.zero = some (.int .u8 0) ∧ i0.size = 1 ∧ i0.bytes = 1 := info_parts (by kernel_rfl)
theorem neBld : (92 : TypeId) ≠ 5 := by decide
set_option maxHeartbeats 2000000 in
set_option maxRecDepth 100000 in
theorem appendRune_any (B : Nat) (v : Value) (n : Nat) (xs : List Value) (r : Int) (h0 : 0 ≤ r) (h1 : r ≤ 127) (w : World) (hown : w.ownsRowF B 5 1 v n xs) (hlen : n + 4 ≤ 140737488355328) (hBw : B ≤ w.heap.size) :
    Calls Try.prog 107 #[v, .int .i32 r] w fun e w' => ∃ v', e = .returned v' ∧ w'.ownsRowF B 5 1 v' (n + 1) (xs ++ [.int .u8 r]) ∧ ∃ o, (w.alloc o).grownBy w' v.ownBlock := by
  obtain ⟨i0, hi, hz0, hz1, hz2⟩ := infoB
  go_enter Try.func107, Try.ntmps107
  go_wp2_with (at_builtin; refine wpList_append_ownF _ rfl _ _ 22 rfl B 5 i0 (.int .u8 0) 1 1 Try.underlying22 hi hz0 hz1 hz2 rfl (by decide) _ _ _ rfl (hown.alloc _) ⟨w.heap.size, 0, none⟩ 1 1 [.int .u8 r] rfl rfl ?c1 ?c2 ?c3 ?c4 ?c5 ?_)
  all_goals first
    | (intro v' w2 hown' hgrow _; go_wp2; go_ret; exact ⟨_, rfl, hown', _, hgrow⟩)
    | (unfold maxLen; omega)
    | omega
    | (simp; omega)
    | rfl
    | (intro u hu; simp at hu; subst hu; rfl)
    | (intro j u hj
       match j, hj with
       | 0, hj => simp at hj; subst hj; simp [Addr.add]
       | (j + 1), hj => simp at hj)
set_option maxHeartbeats 2000000 in
set_option maxRecDepth 100000 in
theorem writeRuneV (B b : Nat) (bs : List Value) (r : Int) (h0 : 0 ≤ r) (h1 : r ≤ 127) (w : World) (h : Lib.IsBuilderF 92 5 B b bs w) (hlen : bs.length + 4 ≤ 1000000) (hBw : B ≤ w.heap.size) :
    Calls Try.prog 87 #[.pointer (some ⟨b, 0, none⟩), .int .i32 r] w fun e w' => (∃ v x, e = .returned (.tuple #[v, x])) ∧ Wrote B b (bs ++ [.int .u8 r]) w' ∧ Below B w w' ∧ Lib.OthersKept 5 (some b) w w' := by
  go_enter Try.func87, Try.ntmps87
  go_wp2_with (go_at_call 106; refine (check_any B b bs _ h).mono ?_)
  rintro e w1 ⟨rfl, hw1, hb1, hk1⟩
  obtain ⟨hB, v, hbk, hown, hne⟩ := hw1
  obtain ⟨ao, cap, rfl⟩ : ∃ ao cap, v = .slice ao bs.length cap := by
    rcases hown.2 with ⟨hv, h0⟩ | ⟨g, cap, cur, fz, hv, _⟩
    · exact ⟨none, 0, by rw [hv, h0]⟩
    · exact ⟨_, _, hv⟩
  have c0 : w1.cell? ⟨b, 0, none⟩ = some (.pointer (some ⟨b, 0, none⟩)) := by rw [Lib.cell_of_heap hbk]; rfl
  have c1 : w1.cell? ⟨b, 1, none⟩ = some (.slice ao bs.length cap) := by rw [Lib.cell_of_heap hbk]; rfl
  go_wp2_with (go_at_call 107; refine (appendRune_any B _ bs.length bs r h0 h1 _ hown (by omega) (by have := hb1.size; omega)).mono ?_)
  rintro e w2 ⟨v', rfl, hown', o, hgrow⟩
  have hlt : b < w1.heap.size := (Array.getElem?_eq_some_iff.1 hbk).1
  have hb2 : w2.heap[b]? = some (.cells #[.pointer (some ⟨b, 0, none⟩), .slice ao bs.length cap] 92 (0, 0)) := by
    rw [hgrow.block b (by simp; omega) (fun e => hne e.symm), Lib.alloc_old w1 _ b hlt]
    exact hbk
  have d0 : w2.cell? ⟨b, 0, none⟩ = some (.pointer (some ⟨b, 0, none⟩)) := by rw [Lib.cell_of_heap hb2]; rfl
  have d1 : w2.cell? ⟨b, 1, none⟩ = some (.slice ao bs.length cap) := by rw [Lib.cell_of_heap hb2]; rfl
  have f1 : w2.frozen? ⟨b, 1, none⟩ = false := Lib.frozen_of_heap hb2 1
  obtain ⟨g, cap', rfl⟩ : ∃ g cap', v' = .slice (some ⟨g, 0, none⟩) (bs.length + 1) cap' := by
    rcases hown'.2 with ⟨_, h0⟩ | ⟨g, cap', cur, fz, hv, _⟩
    · omega
    · exact ⟨g, cap', hv⟩
  go_wp2
  go_ret2
  refine ⟨⟨_, _, rfl⟩, ?_, ?_, ((hk1.alloc _).grown hgrow (Lib.ownsRowF_kind (hown.alloc _))).setCell ⟨b, 1, none⟩ rfl _⟩
  · exact Lib.BuilderAtF.put (T := 92) (e := 5) hB hb2 (bs' := bs ++ [.int .u8 r]) (by simpa using hown') neBld
  · exact ((hb1.alloc (by have := hb1.size; omega) _).grown hgrow (by have := hb1.size; simp; omega) (fun k hk => (hown.lt k hk).1)).setCell (p := ⟨b, 1, none⟩) hB _
theorem writeRune_any (B b : Nat) (l : List UInt8) (c : UInt8) (k : Int) (hk : k = (c.toNat : Int)) (hc : c.toNat ≤ 127) (w : World) (h : Bldr B b l w) (hlen : l.length ≤ 100000) (hBw : B ≤ w.heap.size) :
    Calls Try.prog 87 #[.pointer (some ⟨b, 0, none⟩), .int .i32 k] w fun e w' => (∃ v x, e = .returned (.tuple #[v, x])) ∧ Bldr B b (l ++ [c]) w' ∧ Below B w w' ∧ Lib.OthersKept 5 (some b) w w' := by
  subst hk
  refine (writeRuneV B b (Lib.byteCells l) (c.toNat : Int) (by omega) (by omega) w h (by rw [cells_len]; omega) hBw).mono ?_
  rintro e w' ⟨he, h1, h2, h3⟩
  refine ⟨he, .inr ?_, h2, h3⟩
  have e1 : Lib.byteCells (l ++ [c]) = Lib.byteCells l ++ [.int .u8 (c.toNat : Int)] := by simp [Lib.byteCells]
  rw [e1]; exact h1
theorem string_any (B b : Nat) (l : List UInt8) (w : World) (h : Bldr B b l w) (hBw : B ≤ w.heap.size) :
    Calls Try.prog 88 #[.pointer (some ⟨b, 0, none⟩)] w fun e w' => e = .returned (.string ⟨l.toArray⟩) ∧ Below B w w' := by
  refine (Any.Builder_String_any_k Try.lays169 xb169 B b l w h hBw).mono ?_
  rintro e w' ⟨he, _, h2, _⟩
  exact ⟨he, h2⟩
theorem bldrAt_below {T e : TypeId} {B b : Nat} {p : Value} {bs : List Value} {w w' : World} (h : Lib.BuilderAtF T e B b p bs w) (hb : Below w.heap.size w w') : Lib.BuilderAtF T e B b p bs w' := by
  have hlt := h.lt
  obtain ⟨hB, v, hk, hown, hne⟩ := h
  have hg : w.grownBy w' none := ⟨hb.os, hb.tape, hb.output, hb.size, fun i hi _ => hb.block i hi⟩
  exact ⟨hB, v, (hb.block b hlt).trans hk, hown.kept hg (by cases hv : v.ownBlock <;> simp), hne⟩
theorem Bldr.below {B b : Nat} {l : List UInt8} {w w' : World} (h : Bldr B b l w) (hb : Below w.heap.size w w') : Bldr B b l w' := by
  rcases h with h | h
  · exact .inl (bldrAt_below h hb)
  · exact .inr (bldrAt_below h hb)

/-- The marks of the first blowers. -/
def markT (s : Nat) : Nat → List UInt8
  | 0 => []
  | k + 1 => markT s k ++ [if s.testBit k = true then 43 else 45]
theorem markT_len (s : Nat) : ∀ k, (markT s k).length = k
  | 0 => rfl
  | k + 1 => by rw [markT, List.length_append, markT_len s k]; rfl
theorem markT_yes {s k : Nat} (h : s.testBit k = true) : markT s (k + 1) = markT s k ++ [43] := by rw [markT, if_pos h]
theorem markT_no {s k : Nat} (h : s.testBit k = false) : markT s (k + 1) = markT s k ++ [45] := by rw [markT, h]; rfl
def setText (ts : List TBlower) (f : Int) : List UInt8 := if scode ts f = 0 then markT f.toNat ts.length else []
theorem setText_bad {ts : List TBlower} {f : Int} (h : ¬ scode ts f = 0) : setText ts f = [] := by unfold setText; rw [if_neg h]
theorem setText_good {ts : List TBlower} {f : Int} (h : scode ts f = 0) : setText ts f = markT f.toNat ts.length := by unfold setText; rw [if_pos h]
set_option maxRecDepth 20000 in
set_option maxHeartbeats 2000000 in
theorem specSetText_any (w : World) {a0 : Option Addr} {n0 c0 : Nat} (ts0 : List TBlower) (hn0 : Hid (ts0.length = n0)) (h0 : RR 3 cBlower w a0 ts0) (hs0 : n0 ≤ 1048576) (_wf0 : Hid (∀ t ∈ ts0, wfBlower t)) (f1 : Int) (_wf1 : (Lit.int .i64 f1).wf = true) :
    Calls Try.prog 34 #[.slice a0 n0 c0, .int .i64 f1] w fun e w' => e = .returned (.string ⟨(setText ts0 f1).toArray⟩) ∧ Below w.heap.size w w' := by
  have OK := l11Ok_any a0 ts0 n0 c0 w hn0 h0 hs0
  clear h0
  cases h : blsB ts0 with
  | false =>
    rw [h] at OK
    have HR : Hid (setText ts0 f1 = []) := by unfold Hid setText scode; rw [h]; rfl
    clear h
    go_enter Try.func34, Try.ntmps34
    go_wp2_with (first | (go_at_call 63; refine OK.mono ?_; rintro e w1 ⟨rfl, hb1⟩))
    go_ret
    rw [HR.out]
    exact ⟨rfl, hb1⟩
  | true =>
    rw [h] at OK
    have h4 : n0 ≤ 4 := by rw [← hn0.out]; exact (blsB_of h).1
    have HF := fun W => l11Set_any a0 n0 c0 f1 W h4
    cases h2 : setB n0 f1 with
    | false =>
      rw [h2] at HF
      have HR : Hid (setText ts0 f1 = []) := by unfold Hid setText scode; rw [if_pos h, hn0.out, h2]; rfl
      clear h h2
      go_enter Try.func34, Try.ntmps34
      go_wp2_with (first | (go_at_call 63; refine OK.mono ?_; rintro e w1 ⟨rfl, hb1⟩) | (go_at_call 85; refine (HF _).mono ?_; rintro e w1 ⟨rfl, rfl⟩))
      go_ret
      rw [HR.out]
      exact ⟨rfl, hb1⟩
    | true =>
      rw [h2] at HF
      obtain ⟨s, rfl, hs⟩ := setB_of h2
      have h16 := pow_le16 h4
      have hs16 : s < 16 := by omega
      have HR : Hid (setText ts0 (s : Int) = markT s n0) := by unfold Hid setText scode; rw [if_pos h, hn0.out, if_pos h2]; simp
      clear h h2 hs h16
      go_enter Try.func34, Try.ntmps34
      go_wp2_with (first | (go_at_call 63; refine OK.mono ?_; rintro e w1 ⟨rfl, hb1⟩; have HB1 := Lib.hid hb1; clear hb1) | (go_at_call 85; refine (HF _).mono ?_; rintro e w2 ⟨rfl, rfl⟩))
      go_loop [5, 6] (fun tv iv => ∃ (i : Nat) (l : List UInt8), i ≤ n0 ∧ iv = .int .i64 i ∧ tv = .string ⟨l.toArray⟩ ∧ Hid (l = markT s i)) (fun _ iv => n0 - (intOf iv).toNat)
      case atStart => exact ⟨0, [], by omega, rfl, rfl, rfl⟩
      case round =>
        obtain ⟨i, l, hi, rfl, rfl, HL⟩ := hrel
        by_cases hlt : i < n0
        · have hk0 : (0 : Int) ≤ (i : Int) := by omega
          have hk1 : (i : Int) < (n0 : Int) := by omega
          have hll : l.length = i := by rw [HL.out, markT_len]
          have hadd0 := fun W : World => run_string_add_lists (P := Try.prog) W l [43] (by omega) (by first | omega | (simp; done) | (simp; omega))
          have hadd1 := fun W : World => run_string_add_lists (P := Try.prog) W l [45] (by omega) (by first | omega | (simp; done) | (simp; omega))
          have HH := fun W => l11Has_any s i W (by omega) (by omega)
          cases hbit : s.testBit i with
          | true =>
            have HN : Hid (l ++ [43] = markT s (i + 1)) := by unfold Hid; rw [markT_yes hbit, HL.out]
            rw [hbit] at HH
            clear hbit hll hadd1
            go_wp2_with (go_at_call 89; refine (HH _).mono ?_; rintro e w4 ⟨rfl, rfl⟩)
            go_round
            case rel => exact ⟨i + 1, l ++ [43], by omega, by go_num, rfl, HN⟩
            case measure => simp [intOf]; omega
          | false =>
            have HN : Hid (l ++ [45] = markT s (i + 1)) := by unfold Hid; rw [markT_no hbit, HL.out]
            rw [hbit] at HH
            clear hbit hll hadd0
            go_wp2_with (go_at_call 89; refine (HH _).mono ?_; rintro e w4 ⟨rfl, rfl⟩)
            go_round
            case rel => exact ⟨i + 1, l ++ [45], by omega, by go_num, rfl, HN⟩
            case measure => simp [intOf]; omega
        · have hkn : i = n0 := by omega
          subst hkn
          go_wp2
          go_ret
          rw [HR.out, ← HL.out]
          exact ⟨rfl, HB1.out⟩
set_option maxRecDepth 20000 in
set_option maxHeartbeats 2000000 in
theorem implSetText_any (w : World) {a0 : Option Addr} {n0 c0 : Nat} (ts0 : List TBlower) (hn0 : Hid (ts0.length = n0)) (h0 : RR 3 cBlower w a0 ts0) (hs0 : n0 ≤ 1048576) (_wf0 : Hid (∀ t ∈ ts0, wfBlower t)) (f1 : Int) (_wf1 : (Lit.int .i64 f1).wf = true) :
    Calls Try.prog 33 #[.slice a0 n0 c0, .int .i64 f1] w fun e w' => e = .returned (.string ⟨(setText ts0 f1).toArray⟩) ∧ Below w.heap.size w w' := by
  have CS := checkSet_any a0 ts0 n0 c0 f1 w hn0 h0 hs0
  clear h0
  rcases eq_ways (scode ts0 f1) 0 with ⟨⟨k1, k2⟩, hd⟩ | ⟨⟨k1, k2⟩, hd⟩
  rotate_left
  · have HR := Lib.hid (setText_bad hd)
    clear hd
    go_enter Try.func33, Try.ntmps33
    go_wp2_with (first | (go_at_call 84; refine CS.mono ?_; rintro e w1 ⟨rfl, hb1⟩))
    go_ret
    rw [HR.out]
    exact ⟨rfl, hb1⟩
  have hr := setText_good hd
  obtain ⟨s, rfl, hs, h4⟩ : ∃ s : Nat, f1 = (s : Int) ∧ s < 16 ∧ n0 ≤ 4 := by
    rcases scode_of (ts := ts0) (f := f1) with ⟨_, h, h2, _⟩ | ⟨hc, _⟩
    · obtain ⟨s, e, hs⟩ := setB_of h2
      have h4 := (blsB_of h).1
      have h16 := pow_le16 h4
      exact ⟨s, e, by omega, by rw [← hn0.out]; exact h4⟩
    · exact absurd hd hc
  rw [hn0.out, Int.toNat_natCast] at hr
  have HR := Lib.hid hr
  rw [hd] at CS
  clear hd hr k1 k2
  go_enter Try.func33, Try.ntmps33
  go_wp2_with (first | (go_at_call 84; refine CS.mono ?_; rintro e w1 ⟨rfl, hb1⟩; have HB1 := Lib.hid hb1; have hw1 := hb1.size; clear hb1))
  have HZ : Hid (Bldr w1.heap.size w1.heap.size [] (w1.alloc (.cells #[.pointer none, .slice none 0 0] 92))) := Lib.IsBuilderF.of (Lib.fresh_isBuilder _ _ w1)
  go_loopw [14] (fun iv wr => ∃ i : Nat, i ≤ n0 ∧ iv = .int .i64 i ∧ w1.heap.size < wr.heap.size ∧ Hid (Below w1.heap.size w1 wr) ∧ Hid (Bldr w1.heap.size w1.heap.size (markT s i) wr)) (fun iv _ => n0 - (intOf iv).toNat)
  case atStart => exact ⟨0, by omega, rfl, by simp, (by repeat (first | exact Below.refl _ _ | refine Below.alloc ?_ (by simp; try omega) _ | refine Below.setCell ?_ (by simp; try omega) _)), HZ⟩
  case round =>
    obtain ⟨i, hi, rfl, hws, HBW, HBL⟩ := hrel
    by_cases hlt : i < n0
    · have hk0 : (0 : Int) ≤ (i : Int) := by omega
      have hk1 : (i : Int) < (n0 : Int) := by omega
      have hll := markT_len s i
      have WP := fun W h hW => writeRune_any w1.heap.size w1.heap.size (markT s i) 43 43 rfl (by decide) W h (by omega) hW
      have WM := fun W h hW => writeRune_any w1.heap.size w1.heap.size (markT s i) 45 45 rfl (by decide) W h (by omega) hW
      have HH := fun W => isInSet_any s i W (by omega) (by omega)
      cases hbit : s.testBit i with
      | true =>
        rw [← markT_yes hbit] at WP
        rw [hbit] at HH
        clear hbit hll WM
        go_wp2_with (first | (go_at_call 86; refine (HH _).mono ?_; rintro e w4 ⟨rfl, rfl⟩) | (go_at_call 87; refine (WP _ HBL.out (by omega)).mono ?_; rintro e w5 ⟨⟨v, x, rfl⟩, h5, hb5, _⟩; have hw5 := hb5.size))
        go_roundw
        case rel => exact ⟨i + 1, by omega, by go_num, by omega, HBW.out.trans hb5, h5⟩
        case measure => simp [intOf]; omega
      | false =>
        rw [← markT_no hbit] at WM
        rw [hbit] at HH
        clear hbit hll WP
        go_wp2_with (first | (go_at_call 86; refine (HH _).mono ?_; rintro e w4 ⟨rfl, rfl⟩) | (go_at_call 87; refine (WM _ HBL.out (by omega)).mono ?_; rintro e w5 ⟨⟨v, x, rfl⟩, h5, hb5, _⟩; have hw5 := hb5.size))
        go_roundw
        case rel => exact ⟨i + 1, by omega, by go_num, by omega, HBW.out.trans hb5, h5⟩
        case measure => simp [intOf]; omega
    · have hkn : i = n0 := by omega
      subst hkn
      have SG := string_any w1.heap.size w1.heap.size _ wr HBL.out (by omega)
      go_wp2_with (first | (go_at_call 88; refine SG.mono ?_; rintro e w6 ⟨rfl, hb6⟩))
      go_ret
      rw [HR.out]
      exact ⟨rfl, HB1.out.trans ((HBW.out.trans hb6).mono hw1)⟩
end Go.Proofs.Ytiilgeoahpnkpaa
