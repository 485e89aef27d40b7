/-
  The walk of needsOf: what a way needs, sorted by the stations, in memory of its own.
-/
import Derived.Test.YtenjigifjkfiaaaNeedLay
import Derived.Test.YtenjigifjkfiaaaCheckWays
namespace Go.Proofs.Ytenjigifjkfiaaa
open Go.RowKit Go.Shelf Go.Sort

def flatN (l : List (Int × Int)) : List Value := l.flatMap encN
theorem flatN_length (l : List (Int × Int)) : (flatN l).length = l.length * 2 := by
  unfold flatN
  induction l with
  | nil => rfl
  | cons p l ih => simp only [List.flatMap_cons, List.length_append, ih, List.length_cons]; simp [encN]; omega
theorem flatN_app (l r : List (Int × Int)) : flatN (l ++ r) = flatN l ++ flatN r := by simp [flatN]
theorem flatN_one (l : List (Int × Int)) : ∀ u ∈ flatN l, u.oneCell' = true := by
  intro u hu
  unfold flatN at hu
  rw [List.mem_flatMap] at hu
  obtain ⟨t, _, hu⟩ := hu
  simp [encN] at hu
  rcases hu with rfl | rfl <;> rfl
theorem flatN_at (l : List (Int × Int)) : ∀ t, t < l.length * 2 → (flatN l)[t]? = some ((encN l[t / 2]!)[t % 2]!) := by
  induction l with
  | nil => intro t h; simp at h
  | cons p l ih =>
    intro t h
    have e : flatN (p :: l) = .int .i64 p.1 :: .int .i64 p.2 :: flatN l := rfl
    rw [e]
    match t, h with
    | 0, _ => rfl
    | 1, _ => rfl
    | t + 2, h =>
      rw [List.getElem?_cons_succ, List.getElem?_cons_succ, ih t (by simp at h; omega)]
      rw [show (t + 2) / 2 = t / 2 + 1 by omega, show (t + 2) % 2 = t % 2 by omega]
      rfl
theorem flatK_list (d : Array (Int × Int)) : (flatK encN 2 d).toList = flatN d.toList := by
  apply List.ext_getElem?
  intro t
  by_cases h : t < d.size * 2
  · rw [flatN_at d.toList t (by simpa using h)]
    have hs : t < (flatK encN 2 d).size := by simpa using h
    have hd : t / 2 < d.size := by omega
    rw [Array.getElem?_toList, Array.getElem?_eq_getElem hs, ← getElem!_pos (flatK encN 2 d) t hs, get_flatK encN 2 d t h]
    rw [getElem!_pos d (t / 2) hd, getElem!_pos d.toList (t / 2) (by simpa using hd)]
    rfl
  · rw [List.getElem?_eq_none (by simp; omega), List.getElem?_eq_none (by rw [flatN_length]; simp; omega)]

theorem own_holds {w : World} {lo g m cap : Nat} {e : TypeId} {d : Array (Int × Int)} (hm : d.size = m) (h : w.ownsRow lo e 2 (.slice (some ⟨g, 0, none⟩) m cap) m (flatN d.toList)) :
    HoldsK encN 2 w g 0 d ∧ lo ≤ g ∧ g < w.heap.size ∧ ∃ cur, w.heap[g]? = some (.cells cur e (0, 0)) ∧ m ≤ cap ∧ cap ≤ maxLen ∧ cur.size = cap * 2 := by
  rcases h.2 with ⟨hv, _⟩ | ⟨g', cap', cur, hv, hlo, hg, h1, h2, h3, ht⟩
  · injection hv with h1; injection h1
  · injection hv with e1 e2 e3
    injection e1 with e1
    injection e1 with e1
    subst e1 e3
    refine ⟨?_, hlo, (Array.getElem?_eq_some_iff.1 hg).1, cur, hg, h1, h2, h3⟩
    intro j hj
    have hj' : j < d.size * 2 := by simpa using hj
    refine ⟨?_, frozen_of_row w g (0 + j) cur _ hg⟩
    rw [cell_of_row w g (0 + j) cur e (0, 0) hg, Nat.zero_add]
    have e1 : (flatN d.toList)[j]? = some (flatK encN 2 d)[j]! := by
      rw [← flatK_list, Array.getElem?_toList, Array.getElem?_eq_getElem hj, getElem!_pos _ j hj]
    rw [← ht, List.getElem?_take_of_lt (by omega)] at e1
    simpa using e1
/-- The sorted row is owned as it was. -/
theorem sorted_own {w : World} {lo g m cap q : Nat} {e : TypeId} {cur : Array Value} {d' : Array (Int × Int)} {os : Array Obj} (hm : d'.size = m) (hlo : lo ≤ g) (hg : w.heap[g]? = some (.cells cur e (0, 0))) (h1 : m ≤ cap) (h2 : cap ≤ maxLen) (h3 : cur.size = cap * 2) :
    (sortWorldK encN 2 w g 0 q d' os).ownsRow lo e 2 (.slice (some ⟨g, 0, none⟩) m cap) m (flatN d'.toList) ∧ w.grownBy (sortWorldK encN 2 w g 0 q d' os) (some g) := by
  have hlt : g < w.heap.size := (Array.getElem?_eq_some_iff.1 hg).1
  have hH : (sortWorldK encN 2 w g 0 q d' os).heap[g]? = some (.cells (putCells id 0 (flatK encN 2 d') cur) e (0, 0)) := by
    unfold sortWorldK putRowK putRow mapBlock grow
    simp only
    rw [Array.getElem?_append_left (by simpa [Sort.ahead] using hlt), Array.getElem?_modify]
    have : (Sort.ahead w q).heap[g]? = some (.cells cur e (0, 0)) := hg
    rw [if_pos rfl, this]
    rfl
  refine ⟨⟨?_, .inr ⟨g, cap, _, rfl, hlo, hH, h1, h2, ?_, ?_⟩⟩, ?_⟩
  · rw [flatN_length]; simp [hm]
  · unfold putCells; simp [h3]
  · rw [← flatK_list]
    apply List.ext_getElem?
    intro t
    by_cases ht : t < m * 2
    · have hs : t < (flatK encN 2 d').size := by simp [hm]; exact ht
      have hc : t < cur.size := by omega
      rw [List.getElem?_take_of_lt ht, Array.getElem?_toList, Array.getElem?_toList, Array.getElem?_eq_getElem hs]
      unfold putCells
      rw [Array.getElem?_mapIdx, Array.getElem?_eq_getElem hc]
      simp only [Option.map_some]
      rw [if_pos ⟨Nat.zero_le _, by omega⟩, Nat.sub_zero, getElem!_pos _ t hs]
      rfl
    · rw [List.getElem?_eq_none (by simp; omega), List.getElem?_eq_none (by simp [hm]; omega)]
  · refine ⟨rfl, rfl, rfl, ?_, ?_⟩
    · unfold sortWorldK putRowK putRow mapBlock grow Sort.ahead; simp
    · intro i hi hne
      unfold sortWorldK putRowK putRow mapBlock grow
      simp only
      rw [Array.getElem?_append_left (by simpa [Sort.ahead] using hi), Array.getElem?_modify]
      rw [if_neg (fun h => hne (by rw [h]))]
      rfl

/-- What the first k tubes need. -/
def nds (ts : List T3) (way : List Int) (k : Nat) : List (Int × Int) := (way.take k).map fun z => (frAt ts z, z)
theorem nds_len {ts : List T3} {way : List Int} {k : Nat} (h : k ≤ way.length) : (nds ts way k).length = k := by unfold nds; simp; omega
theorem nds_succ {ts : List T3} {way : List Int} {k : Nat} (h : k < way.length) : nds ts way (k + 1) = nds ts way k ++ [(frAt ts way[k], way[k])] := by
  unfold nds; rw [List.take_succ_eq_append_getElem h, List.map_append]; rfl

/-- A call hands back needs, in memory of its own, sorted. -/
def NeedsGive (l : List (Int × Int)) (m : Nat) (w : World) (e : Ending) (w' : World) : Prop :=
  Below w.heap.size w w' ∧ ∃ ao cap l', e = .returned (.slice ao m cap) ∧ w'.ownsRow w.heap.size 70 2 (.slice ao m cap) m (flatN l') ∧ l'.Perm l ∧ l'.length = m ∧ ∀ i j (hi : i < l'.length) (hj : j < l'.length), i < j → ¬ (l'[j]).1 < (l'[i]).1
theorem news_two (w : World) (x y : Value) (e : TypeId) : ∀ j u, [x, y][j]? = some u → (w.alloc (.cells #[x, y] e)).cell? ((⟨w.heap.size, 0, none⟩ : Addr).add j) = some u := by
  intro j u hj
  match j, hj with
  | 0, hj => simp at hj; subst hj; simp [Addr.add, go_sem]
  | 1, hj => simp at hj; subst hj; simp [Addr.add, go_sem]
theorem infoNeed : (Try.prog.info? 70).map (fun i => (i.zero, i.size, i.bytes)) = some (some (.agg #[.int .i64 0, .int .i64 0]), 2, 16) := by kernel_rfl
theorem sorted_list {m : Nat} {d d' : Array (Int × Int)} (hm : d.size = m) (h : PermIn 0 m d d') (hs : SortedIn (ltOf cmpN) 0 m d') : d'.size = d.size ∧ d'.toList.Perm d.toList ∧ ∀ i j (hi : i < d'.toList.length) (hj : j < d'.toList.length), i < j → ¬ (d'.toList[j]).1 < (d'.toList[i]).1 := by
  subst hm
  obtain ⟨h1, _, h3⟩ := h
  refine ⟨h1, ?_, ?_⟩
  · have e1 : d'.extract 0 d.size = d' := by rw [← h1]; simp
    have e2 : d.extract 0 d.size = d := by simp
    rw [e1, e2] at h3
    exact h3
  · intro i j hi hj hij
    have hi' : i < d'.size := by simpa using hi
    have hj' : j < d'.size := by simpa using hj
    have := hs i j (Nat.zero_le _) hij (by omega)
    rw [ltN, getElem!_pos d' j hj', getElem!_pos d' i hi'] at this
    have := of_decide_eq_false this
    simpa using this

set_option maxHeartbeats 1000000 in
theorem needsOf_any (s : Int) (a b : Option Addr) (ts : List T3) (way : List Int) (n ca m cb : Nat) (w : World) (hn : Hid (ts.length = n)) (ha : RT w a ts) (hm : Hid (way.length = m)) (hb : RI w b way) (hm1 : m ≤ 1048576) (hway : ∀ k (h : k < way.length), stB n way[k] = true) :
    Calls Try.prog 47 #[.agg #[.int .i64 s, .slice a n ca], .slice b m cb] w (NeedsGive (nds ts way m) m w) := by
  have HA : Hid (∀ w', Below w.heap.size w w' → RT w' a ts) := fun w' h => ha.below h
  have HBB : Hid (0 < m → ∃ bb ob, b = some ⟨bb, ob, none⟩ ∧ bb < w.heap.size ∧ ∀ i (h : i < way.length), w.cell? ⟨bb, ob + i, none⟩ = some (.int .i64 way[i])) := fun h => hb.addr (by rw [hm.out]; exact h)
  have HI : Hid (∃ i0 : TypeInfo, Try.prog.info? 70 = some i0 ∧ i0.zero = some (.agg #[.int .i64 0, .int .i64 0]) ∧ i0.size = 2 ∧ i0.bytes = 16) := info_parts infoNeed
  have HWAY := Lib.hid hway
  clear ha hb hway
  go_enter Try.func47, Try.ntmps47
  go_wp2
  go_loopw [5, 10] (fun vo iv wr => ∃ (k cap : Nat) (ao : Option Addr), k ≤ m ∧ vo = .slice ao k cap ∧ iv = .int .i64 k ∧ Below w.heap.size w wr ∧ Hid (wr.cell? ⟨w.heap.size, 0, none⟩ = some (.int .i64 s) ∧ wr.cell? ⟨w.heap.size, 1, none⟩ = some (.slice a n ca)) ∧ Hid (∀ q, (Value.slice ao k cap).ownBlock = some q → w.heap.size < q) ∧ Hid (wr.ownsRow w.heap.size 70 2 (.slice ao k cap) k (flatN (nds ts way k)))) (fun _ iv _ => m - (intOf iv).toNat)
  case atStart => exact ⟨0, 0, none, by omega, rfl, rfl, (by repeat (first | exact Below.refl _ _ | refine Below.alloc ?_ (by simp; try omega) _ | refine Below.setCell ?_ (by simp; try omega) _)), ⟨by simp [go_sem], by simp [go_sem]⟩, fun q h => by simp [Value.ownBlock] at h, World.ownsRow_nil _ _ _ _⟩
  case round =>
    obtain ⟨k, cap, ao, hk, rfl, rfl, hbel, HQ, HGT, HOWN⟩ := hrel
    obtain ⟨q0, q1⟩ := HQ.out
    have hz1 := World.block_lt_of_cell? _ _ q0
    simp only at hz1
    by_cases hlt : k < m
    · have hka : k < way.length := by rw [hm.out]; exact hlt
      obtain ⟨bb, ob, rfl, hbb, hcb⟩ := HBB.out (by omega)
      have x1 := hcb k hka
      have hst := HWAY.out k hka
      have HND := Lib.hid (nds_succ (ts := ts) hka)
      generalize way[k] = z at x1 hst HND
      obtain ⟨g0, g1⟩ := stB_parts hst
      obtain ⟨j, rfl⟩ := Int.eq_ofNat_of_zero_le g0
      have hj : j < ts.length := by rw [hn.out]; omega
      obtain ⟨ba, oa, rfl, hba, hca⟩ := (HA.out w (Below.refl _ _)).addr (by omega)
      obtain ⟨y1, y2, y3⟩ := hca j hj
      have HFA := Lib.hid (frAt_of (List.getElem?_eq_getElem hj))
      generalize ts[j] = t at y1 y2 y3 HFA
      rw [← hbel.cell (p := ⟨bb, _, none⟩) hbb] at x1
      rw [← hbel.cell (p := ⟨ba, _, none⟩) hba] at y1 y2 y3
      have hk0 : (0 : Int) ≤ (k : Int) := by omega
      have hk1 : (k : Int) < (m : Int) := by omega
      have hj0 : (0 : Int) ≤ (j : Int) := by omega
      have hws : w.heap.size ≤ wr.heap.size := hbel.size
      have HGE : Hid (∀ q, (Value.slice ao k cap).ownBlock = some q → w.heap.size ≤ q) := fun q hq => own_lo_block HOWN.out hq
      have HZ1 := Lib.hid hz1
      have HBEL := Lib.hid hbel
      clear hbel hcb hca hst
      go_wp2_with (at_builtin; refine wpList_append_lies _ rfl _ _ 67 rfl w.heap.size 70 HI.out.choose (.agg #[.int .i64 0, .int .i64 0]) 2 16 Try.underlying67 HI.out.choose_spec.1 HI.out.choose_spec.2.1 HI.out.choose_spec.2.2.1 HI.out.choose_spec.2.2.2 rfl (by decide) (.slice ao k cap) k (flatN (nds ts way k)) rfl (HOWN.out.alloc _) ⟨wr.heap.size, 0, none⟩ 1 1 [.int .i64 t.1, .int .i64 (j : Int)] rfl rfl (news_two _ _ _ _) (by intro u hu; simp at hu; rcases hu with rfl | rfl <;> rfl) (by omega) (by unfold maxLen; omega) (by omega) (by simp; omega) (wr.heap.size + 1) (by simp) ?_)
      intro g cap' w1 hown1 hgrow hat hlt2
      have B1 : Hid (Below w.heap.size w w1) := (HBEL.out.alloc hws _).grown hgrow (by simp; omega) HGE.out
      have O1 : Hid (w1.ownsRow w.heap.size 70 2 (.slice (some ⟨g, 0, none⟩) (k + 1) cap') (k + 1) (flatN (nds ts way (k + 1)))) := by
        unfold Hid; rw [HND.out, HFA.out, flatN_app]; exact hown1
      have GT1 : Hid (∀ q, (Value.slice (some ⟨g, 0, none⟩) (k + 1) cap').ownBlock = some q → w.heap.size < q) := by
        intro q hq
        have : q = g := by simp [Value.ownBlock] at hq; omega
        subst this
        rcases hat with h | h
        · exact HGT.out q h
        · have := HZ1.out; omega
      have hne : ∀ q, (Value.slice ao k cap).ownBlock = some q → q ≠ w.heap.size := fun q hq e => by have := HGT.out q hq; omega
      have s0 : w1.cell? ⟨w.heap.size, 0, none⟩ = some (.int .i64 s) := hgrow.cell (a := ⟨w.heap.size, 0, none⟩) (((Below.refl _ wr).alloc (Nat.le_refl _) _).cell (p := ⟨w.heap.size, 0, none⟩) hz1 |>.trans q0) (fun e => hne _ e.symm rfl)
      have s1 : w1.cell? ⟨w.heap.size, 1, none⟩ = some (.slice (some ⟨ba, oa, none⟩) n ca) := hgrow.cell (a := ⟨w.heap.size, 1, none⟩) (((Below.refl _ wr).alloc (Nat.le_refl _) _).cell (p := ⟨w.heap.size, 1, none⟩) hz1 |>.trans q1) (fun e => hne _ e.symm rfl)
      have HS1 := Lib.hid (And.intro s0 s1)
      clear hown1 hgrow hat hlt2 x1 y1 y2 y3 hne s0 s1 q0 q1
      go_wp2
      go_roundw
      case rel => exact ⟨k + 1, cap', _, by omega, rfl, by go_num, B1.out, HS1.out, GT1.out, O1.out⟩
      case measure => simp [intOf]; omega
    · have hkm : m = k := by omega
      subst hkm
      have HB1 := Lib.hid hbel
      clear hbel q0 q1
      by_cases hz : m = 0
      · have hsort := fun W => AnyF.slices_SortFunc_none Try.sortNeeds ao cap (.func (.func 71) #[] #[]) W
        change ∀ W, Calls Try.prog 70 _ _ _ at hsort
        subst hz
        go_wp2_with (go_at_call 70; refine (hsort _).mono ?_; rintro e w' ⟨rfl, rfl⟩)
        go_ret
        exact ⟨HB1.out, ao, cap, [], rfl, HOWN.out, List.Perm.refl _, rfl, fun i j hi => absurd hi (by simp)⟩
      · obtain ⟨g, hg⟩ : ∃ g, ao = some ⟨g, 0, none⟩ := by
          rcases HOWN.out.2 with ⟨hv, h0⟩ | ⟨g, _, _, hv, _⟩
          · exact absurd h0 hz
          · injection hv with e1; exact ⟨g, e1⟩
        subst hg
        have hsz : (nds ts way m).toArray.size = m := by simpa using nds_len (ts := ts) (by rw [hm.out]; exact Nat.le_refl _)
        obtain ⟨hH, hlo, hgl, cur, hcur, c1, c2, c3⟩ := own_holds (d := (nds ts way m).toArray) hsz HOWN.out
        have hsort := sortN_any g cap (nds ts way m).toArray wr hH hgl (by rw [hsz]; omega)
        rw [hsz] at hsort
        have HCUR := Lib.hid hcur
        have HC := Lib.hid (And.intro c1 (And.intro c2 c3))
        have HLO := Lib.hid hlo
        have HSZ := Lib.hid hsz
        clear hH hcur c1 c2 c3 hlo hgl hsz
        go_wp2_with (go_at_call 70; refine hsort.mono ?_; rintro e w' ⟨rfl, d', q, os, hperm, hsorted, hw'⟩)
        obtain ⟨p1, p2, p3⟩ := sorted_list HSZ.out hperm hsorted
        obtain ⟨o1, o2⟩ := sorted_own (q := q) (os := os) (p1.trans HSZ.out) HLO.out HCUR.out HC.out.1 HC.out.2.1 HC.out.2.2
        go_ret
        subst hw'
        refine ⟨HB1.out.grown o2 HB1.out.size (fun k hk => by injection hk with hk; rw [← hk]; exact HLO.out), _, cap, d'.toList, rfl, o1, p2, by simpa using p1.trans HSZ.out, p3⟩
end Go.Proofs.Ytenjigifjkfiaaa
