/-
  The program's withoutRing: the words' bytes without those at a place.
-/
import Derived.Test.YtpkkibnpjhlfmaaDoorRing
import Derived.Test.YtpkkibnpjhlfmaaDoorDel
namespace Go.Proofs.YtpkkibnpjhlfmaaDoor
open Go.RowKit

/-- What a row of slices holds: each cell is a slice of a block of its own that holds a text's bytes. -/
def LeftOf (w : World) (row : Option Nat) (L : Nat) (xs : List Value) (ss : List ByteArray) : Prop :=
  xs.length = ss.length ∧ ∀ i (h : i < ss.length), ∃ g c, xs[i]? = some (.slice (some ⟨g, 0, none⟩) L c) ∧ L ≤ c ∧ g < w.heap.size ∧ row ≠ some g ∧ ByteC w g 0 (bl ss[i])
theorem LeftOf.nil (w : World) (L : Nat) : LeftOf w none L [] [] := ⟨rfl, fun _ h => absurd h (Nat.not_lt_zero _)⟩
theorem ByteC.kept {w w' : World} {g o : Nat} {l : List UInt8} (h : ByteC w g o l) (hk : ∀ p, w.cell? ⟨g, p, none⟩ ≠ none → w'.cell? ⟨g, p, none⟩ = w.cell? ⟨g, p, none⟩) : ByteC w' g o l := fun j hj => by
  rw [hk _ (by rw [h j hj]; simp)]; exact h j hj
theorem ByteC.below {w w' : World} {g o B : Nat} {l : List UInt8} (h : ByteC w g o l) (hb : Below B w w') (hg : g < B) : ByteC w' g o l := h.kept fun _ _ => hb.cell hg
theorem ByteC.grown {w w' : World} {g o : Nat} {row : Option Nat} {l : List UInt8} (h : ByteC w g o l) (hb : w.grownBy w' row) (hne : row ≠ some g) : ByteC w' g o l := fun j hj => hb.cell (h j hj) (fun e => hne e.symm)
theorem bytesRow_blk (w : World) (s : ByteArray) (cap : Nat) (e : TypeId) (k : Nat) : ByteBlk (w.alloc (.cells (bytesRow s cap) e (( bytesRow s cap).size, k))) w.heap.size (bl s) := fun i hi => by
  have hs : i < s.data.size := by rw [bl_length] at hi; exact hi
  have h := bytesRow_at s cap i hs
  have hh := heap_alloc_new w (.cells (bytesRow s cap) e ((bytesRow s cap).size, k))
  have hz : i < (bytesRow s cap).size := (Array.getElem?_eq_some_iff.1 h).1
  have hg : (bl s).getD i 0 = s.data[i] := bl_getD s i hs
  rw [hg, ← h]
  constructor
  · simp only [World.cell?, hh]
    rfl
  · simp only [World.frozen?, hh]
    simp
    omega

theorem LeftOf.next {wr w2 w5 : World} {own : Option Nat} {L cc g' : Nat} {xs : List Value} {ss : List ByteArray} {t : ByteArray} {o : Obj} (h : LeftOf wr own L xs ss) (hb : Below wr.heap.size wr w2) (hs : wr.heap.size < w2.heap.size) (hg : (w2.alloc o).grownBy w5 own)
    (hown : ∀ k, own = some k → k < wr.heap.size) (hat : own = some g' ∨ g' = w2.heap.size + 1) (hbl : ByteC w2 wr.heap.size 0 (bl t)) (hcc : L ≤ cc) : LeftOf w5 (some g') L (xs ++ [.slice (some ⟨wr.heap.size, 0, none⟩) L cc]) (ss ++ [t]) := by
  have hso : (w2.alloc o).heap.size = w2.heap.size + 1 := by simp
  have hs5 := hg.size
  have hbo : Below w2.heap.size w2 (w2.alloc o) := Below.alloc (Below.refl _ _) (Nat.le_refl _) _
  refine ⟨by simp [h.1], fun i hi => ?_⟩
  rw [List.length_append, List.length_singleton] at hi
  by_cases hlt : i < ss.length
  · obtain ⟨g, c, h1, h2, h3, h4, h5⟩ := h.2 i hlt
    refine ⟨g, c, by rw [List.getElem?_append_left (by rw [h.1]; exact hlt)]; exact h1, h2, by omega, fun e => ?_, ?_⟩
    · injection e with e
      subst e
      rcases hat with h6 | h6
      · exact h4 h6
      · omega
    · rw [List.getElem_append_left hlt]
      exact ((h5.below hb h3).below hbo (by omega)).grown hg h4
  · have he : i = ss.length := by omega
    subst he
    refine ⟨wr.heap.size, cc, by rw [List.getElem?_append_right (by rw [h.1]; exact Nat.le_refl _), h.1]; simp, hcc, by omega, fun e => ?_, ?_⟩
    · injection e with e
      subst e
      rcases hat with h6 | h6
      · exact absurd (hown _ h6) (Nat.lt_irrefl _)
      · omega
    · rw [List.getElem_append_right (Nat.le_refl _)]
      simp only [Nat.sub_self, List.getElem_cons_zero]
      exact (hbl.below hbo hs).grown hg (fun e => absurd (hown _ e) (Nat.lt_irrefl _))
theorem LeftOf.rbs {w : World} {row : Option Nat} {lo b n c L : Nat} {e : TypeId} {xs : List Value} {ss : List ByteArray} (h : LeftOf w row L xs ss) (ho : w.ownsRow lo e 1 (.slice (some ⟨b, 0, none⟩) n c) n xs) : RBs w b 0 L ss := fun i hi => by
  obtain ⟨g, c', h1, h2, _, _, h5⟩ := h.2 i hi
  have := ho.cells (g := b) rfl i _ h1
  rw [Addr.add_lit] at this
  exact ⟨g, 0, c', this, h2, h5⟩
theorem ByteBlk.c {w : World} {g : Nat} {l : List UInt8} (h : ByteBlk w g l) : ByteC w g 0 l := fun j hj => by rw [Nat.zero_add]; exact (h j hj).1
theorem bl_cutL (r : Nat) (s : ByteArray) : bl (cutB r s) = cutL r (bl s) := bl_cutB r s
theorem own_caps {w : World} {lo n g c : Nat} {e : TypeId} {size : Nat} {xs : List Value} (h : w.ownsRow lo e size (.slice (some ⟨g, 0, none⟩) n c) n xs) (hn : 0 < n) : n ≤ c ∧ c ≤ 9223372036854775807 := by
  rcases h.2 with ⟨_, h0⟩ | ⟨g1, cap, cur, hv, _, _, h1, h2, _⟩
  · omega
  · injection hv with _ _ h3
    subst h3
    exact ⟨h1, by unfold maxLen at h2; omega⟩
theorem slices_one (v : Value) (h : v.oneCell' = true) : ∀ u ∈ [v], u.oneCell' = true := by intro u hu; simp at hu; subst hu; exact h
theorem cutS_next {ss : List ByteArray} {r i : Nat} {t : ByteArray} (hi : i < ss.length) (e : ss[i] = t) : cutS (ss.take (i + 1)) r = cutS (ss.take i) r ++ [cutB r t] := by
  unfold cutS; rw [List.take_add_one, List.map_append, List.getElem?_eq_getElem hi, e]; rfl
theorem conv_of (wr : World) (t : ByteArray) (h8 : t.size ≤ 8) : ∃ cc W1, t.size ≤ cc ∧ cc ≤ 9223372036854775807 ∧ (convert 9 22 (.string t)).run Tryd.prog wr = .ok (.slice (some ⟨wr.heap.size, 0, none⟩) t.size cc) W1 ∧ Below wr.heap.size wr W1 ∧ wr.heap.size < W1.heap.size ∧ ByteBlk W1 wr.heap.size (bl t) :=
  ⟨_, _, grownCap_ge _ _ _ _, grownCap_le_maxLen _ _ _ _ (by unfold maxLen; omega), run_bytes_of_string wr 9 22 5 t Tryd.underlying9 Tryd.underlying22 Tryd.underlying5, Below.alloc (Below.drew (Below.refl _ _)) (Nat.le_refl _) _, by simp, bytesRow_blk _ _ _ _ _⟩
theorem slB_info : (Tryd.prog.info? 22).map (fun i => (i.zero, i.size, i.bytes)) = some (some (.slice none 0 0), 1, 24) := by kernel_rfl

set_option maxRecDepth 100000 in
set_option maxHeartbeats 8000000 in
theorem withoutRing_any (a : Option Addr) (ss : List ByteArray) (n ca L r : Nat) (w : World) (hn : Hid (ss.length = n)) (ha : RS w a ss) (hmax : n ≤ 1048576) (h0 : 0 < n) (hcap : n ≤ ca) (hcm : ca ≤ 9223372036854775807) (HE : Hid (∀ s ∈ ss, s.size = L)) (hr : r < L) (hL8 : L ≤ 8) :
    Calls Tryd.prog 63 #[.slice a n ca, .int .i64 (r : Int)] w fun e w' => ∃ b c, e = .returned (.slice (some ⟨b, 0, none⟩) n c) ∧ n ≤ c ∧ c ≤ 9223372036854775807 ∧ Below w.heap.size w w' ∧ RBs w' b 0 (L - 1) (cutS ss r) := by
  obtain ⟨b, off, rfl, hb, hc⟩ := ha.addr (by rw [hn.out]; omega)
  have HC := Lib.hid hc
  clear hc ha
  have HI : Hid (∃ i0 : TypeInfo, Tryd.prog.info? 22 = some i0 ∧ i0.zero = some (.slice none 0 0) ∧ i0.size = 1 ∧ i0.bytes = 24) := info_parts slB_info
  go_enter Tryd.func63, Tryd.ntmps63
  go_wp2_with fail
  go_loopw [5, 10] (fun vo iv wr => ∃ (i cap : Nat) (ao : Option Addr) (xs : List Value), i ≤ n ∧ vo = .slice ao i cap ∧ iv = .int .i64 (i : Int) ∧ Hid (Below w.heap.size w wr) ∧ Hid (wr.ownsRow w.heap.size 22 1 (.slice ao i cap) i xs) ∧ Hid (LeftOf wr (Value.slice ao i cap).ownBlock (L - 1) xs (cutS (ss.take i) r))) (fun _ iv _ => n - (intOf iv).toNat)
  case atStart => exact ⟨0, 0, none, [], by omega, rfl, rfl, Below.refl _ _, World.ownsRow_nil w _ _ _, LeftOf.nil _ _⟩
  case round =>
    obtain ⟨i, cap, ao, xs, hi, rfl, rfl, HBI, HOI, HLO⟩ := hrel
    by_cases hil : i < n
    · have hia : i < ss.length := by rw [hn.out]; exact hil
      obtain ⟨t, ht⟩ : ∃ t, ss[i] = t := ⟨_, rfl⟩
      have x1 := HC.out i hia
      rw [ht, ← HBI.out.cell hb] at x1
      have hts : t.size = L := by rw [← ht]; exact HE.out _ (List.getElem_mem _)
      have HTK := Lib.hid (cutS_next (r := r) hia ht)
      obtain ⟨cc, W1, hcc, hcc2, hconv, hb1, hs1, hbk⟩ := conv_of wr t (by omega)
      have hl : (bl t).length = t.size := bl_length t
      have HDEL := Lib.hid (delB_any wr.heap.size cc r (bl t) W1 hbk (by omega) (by omega) hcc2)
      rw [hl] at HDEL
      have HB1 := Lib.hid hb1
      have HS1 := Lib.hid hs1
      have hk0 : (0 : Int) ≤ (i : Int) := by omega
      have hk1 : (i : Int) < (n : Int) := by omega
      have hwr : IntKind.i64.wrap ((r : Int) + 1) = (r : Int) + 1 := by rw [IntKind.wrap_i64]; omega
      have HCC : Hid (L - 1 ≤ cc) := by unfold Hid; omega
      have HTS := Lib.hid hts
      have HCM := Lib.hid hcc2
      clear ht hl hb1 hs1 hbk hcc hcc2 hts
      go_wp2_with fail
      refine HDEL.out.mono ?_
      rintro e w2 ⟨rfl, hb2, hbl2⟩
      have HO2 := Lib.hid ((Row.of HOI.out).below (HB1.out.trans hb2)).1
      have HB2 := Lib.hid (HB1.out.trans hb2)
      have HS2 : Hid (wr.heap.size < w2.heap.size) := Nat.lt_of_lt_of_le HS1.out hb2.size
      have HBL : Hid (ByteC w2 wr.heap.size 0 (bl (cutB r t))) := by unfold Hid; rw [bl_cutL]; exact hbl2.c
      have HGE : Hid (∀ q, (Value.slice ao i cap).ownBlock = some q → w.heap.size ≤ q ∧ q < wr.heap.size) := fun q hq => HOI.out.lt q hq
      have hs22 : w.heap.size ≤ w2.heap.size := Nat.le_trans HBI.out.size HB2.out.size
      clear hb2 hbl2
      generalize hv : Value.slice ao i cap = v0 at HO2 HLO HOI HGE ⊢
      go_wp2_with (at_builtin; refine wpList_append_lies _ rfl _ _ 77 rfl w.heap.size 22 HI.out.choose (.slice none 0 0) 1 24 Tryd.underlying77 HI.out.choose_spec.1 HI.out.choose_spec.2.1 HI.out.choose_spec.2.2.1 HI.out.choose_spec.2.2.2 rfl (by decide) v0 i xs rfl (HO2.out.alloc _) ⟨w2.heap.size, 0, none⟩ 1 1 [.slice (some ⟨wr.heap.size, 0, none⟩) (t.size - 1) cc] rfl rfl (news_oneS _ _ _) (slices_one _ rfl) (by omega) (by unfold maxLen; omega) (by omega) (by simp; omega) _ rfl ?_)
      intro g' cap' w5 hown1 hgrow hat hlt2
      have B5 : Hid (Below w.heap.size w w5) := (two_worlds' HBI.out (show Below wr.heap.size wr _ from HB2.out.alloc (Nat.le_of_lt HS2.out) _)).grown hgrow (by have := HS2.out; have := HBI.out.size; simp; omega) (fun q hq => (HGE.out q hq).1)
      have O5 := Lib.hid hown1
      have HLO2 : Hid (LeftOf w5 (some g') (L - 1) (xs ++ [.slice (some ⟨wr.heap.size, 0, none⟩) (t.size - 1) cc]) (cutS (ss.take (i + 1)) r)) := by
        unfold Hid
        rw [HTK.out, HTS.out]
        exact HLO.out.next HB2.out HS2.out hgrow (fun k hk => (HGE.out k hk).2) hat HBL.out HCC.out
      clear hown1 hgrow hat hlt2 hv
      go_wp2
      go_roundw
      case rel => exact ⟨i + 1, cap', some ⟨g', 0, none⟩, _, by omega, rfl, by go_num, B5.out, O5.out, HLO2.out⟩
      case measure => simp [intOf]; omega
    · have hin : i = n := by omega
      subst hin
      have hne : 0 < i := h0
      obtain ⟨g, hg⟩ : ∃ g, ao = some ⟨g, 0, none⟩ := by
        obtain ⟨g, _, e, _⟩ := HOI.out.form hne
        injection e with e _ _
        exact ⟨g, e⟩
      subst hg
      have HR : Hid (RBs wr g 0 (L - 1) (cutS ss r)) := by
        have h1 := HLO.out
        rw [show ss.take i = ss by rw [← hn.out]; exact List.take_length] at h1
        exact h1.rbs HOI.out
      go_wp2
      go_ret
      obtain ⟨c1, c2⟩ := own_caps HOI.out hne
      exact ⟨g, cap, rfl, c1, c2, HBI.out, HR.out⟩
end Go.Proofs.YtpkkibnpjhlfmaaDoor
