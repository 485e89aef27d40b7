/-
  The walks of AddTube, the model's and the program's: both hand back the network with one more tube, and the code.
-/
import Derived.Test.YtbndminegokffaaNetCode
import Derived.Test.YtbndminegokffaaMarks
import Derived.Deep.AppendLies
import Derived.Deep.RegionHeld3
import Derived.WalkSpells
namespace Go.Proofs.Ytbndminegokffaa
open Go.RowKit

theorem flat_app (ts us : List T3) : flat (ts ++ us) = flat ts ++ flat us := by simp [flat]
theorem flat_one (ts : List T3) : ∀ u ∈ flat ts, u.oneCell' = true := by
  intro u hu
  unfold flat at hu
  rw [List.mem_flatMap] at hu
  obtain ⟨t, _, hu⟩ := hu
  simp at hu
  rcases hu with rfl | rfl | rfl <;> rfl
theorem RT_news {w : World} {b off : Nat} {ts : List T3} (h : ∀ i (h : i < ts.length), w.cell? ⟨b, off + i * 3, none⟩ = some (.int .i64 ts[i].1) ∧ w.cell? ⟨b, off + i * 3 + 1, none⟩ = some (.int .i64 ts[i].2.1) ∧ w.cell? ⟨b, off + i * 3 + 2, none⟩ = some (.int .i64 ts[i].2.2)) :
    ∀ j u, (flat ts)[j]? = some u → w.cell? ((⟨b, off, none⟩ : Addr).add j) = some u := by
  intro j u hu
  rw [Addr.add_lit]
  have hj : j < (flat ts).length := (List.getElem?_eq_some_iff.1 hu).1
  rw [flat_length] at hj
  obtain ⟨h1, h2, h3⟩ := h (j / 3) (by omega)
  obtain ⟨g1, g2, g3⟩ := flat_get ts (j / 3) (by omega)
  have : j = j / 3 * 3 ∨ j = j / 3 * 3 + 1 ∨ j = j / 3 * 3 + 2 := by omega
  rcases this with e | e | e
  · rw [← e] at h1 g1; rw [h1, ← g1, hu]
  · rw [Nat.add_assoc, ← e] at h2; rw [← e] at g2; rw [h2, ← g2, hu]
  · rw [Nat.add_assoc, ← e] at h3; rw [← e] at g3; rw [h3, ← g3, hu]

theorem own_form {w : World} {lo n : Nat} {e : TypeId} {size : Nat} {v : Value} {xs : List Value} (h : w.ownsRow lo e size v n xs) (hne : ¬ v = .slice none 0 0) : ∃ g cap, v = .slice (some ⟨g, 0, none⟩) n cap ∧ lo ≤ g := by
  rcases h.2 with ⟨hv, _⟩ | ⟨g, cap, cur, hv, hg, _⟩
  · exact absurd hv hne
  · exact ⟨g, cap, hv, hg⟩
/-- A call hands back a slice of its own that holds these tubes, with some room; nothing that was there has turned. -/
def ClonesTubes (ts : List T3) (n : Nat) (w : World) (e : Ending) (w' : World) : Prop :=
  ∃ g c, e = .returned (.slice (some ⟨g, 0, none⟩) n c) ∧ w.heap.size ≤ g ∧ Below w.heap.size w w' ∧ w'.ownsRow w.heap.size 36 3 (.slice (some ⟨g, 0, none⟩) n c) n (flat ts)

set_option maxHeartbeats 1000000 in
theorem cloneT_any (b : Nat) (ts : List T3) (n ca : Nat) (w : World) (hn : Hid (ts.length = n)) (ha : RT w (some ⟨b, 0, none⟩) ts) (hmax : n ≤ 1048576) :
    Calls Try.prog 21 #[.slice (some ⟨b, 0, none⟩) n ca] w (ClonesTubes ts n w) := by
  have he : ∀ W : World, (binOp .eql 24 (.slice (some ⟨b, 0, none⟩) n ca) (.slice none 0 0)).run Try.prog W = .ok (.bool false) W := fun W => by
    rw [Lib.run_eql_slice_nil W _ _ _ _ _ _ _ Try.underlying24]; rfl
  have HA : Hid (∀ w', Below w.heap.size w w' → RT w' (some ⟨b, 0, none⟩) ts) := fun w' h => ha.below h
  clear ha
  have HN : Hid (∀ w', Below w.heap.size w w' → ∀ j u, (flat ts)[j]? = some u → w'.cell? ((⟨b, 0, none⟩ : Addr).add j) = some u) := by
    intro w' hb
    rcases HA.out w' hb with rfl | ⟨b', off', e, hc⟩
    · intro j u hu; simp [flat] at hu
    · injection e with e1
      injection e1 with e2 e3
      subst e2
      subst e3
      exact RT_news hc
  have HL : Hid ((flat ts).length = n * 3) := by unfold Hid; rw [flat_length, hn.out]
  have HF : Hid (∀ u ∈ flat ts, u.oneCell' = true) := flat_one ts
  have HI : Hid (∃ i0 : TypeInfo, Try.prog.info? 36 = some i0 ∧ i0.zero = some (.agg #[.int .i64 0, .int .i64 0, .int .i64 0]) ∧ i0.size = 3 ∧ i0.bytes = 24) := info_parts info36
  generalize hfl : flat ts = fl at HN HL HF
  have HFL := Lib.hid hfl
  clear hfl
  go_enter Try.func21, Try.ntmps21
  go_wp2_with (at_builtin; refine wpList_append_own _ rfl _ _ 24 rfl w.heap.size 36 HI.out.choose (.agg #[.int .i64 0, .int .i64 0, .int .i64 0]) 3 24 Try.underlying24 HI.out.choose_spec.1 HI.out.choose_spec.2.1 HI.out.choose_spec.2.2.1 HI.out.choose_spec.2.2.2 rfl (by decide) (.slice (some ⟨w.heap.size, 0, none⟩) 0 0) 0 [] rfl (World.ownsRow_made w #[] 0 (Nat.le_refl _) (by unfold maxLen; omega) rfl) ⟨b, 0, none⟩ n ca fl rfl HL.out (HN.out _ ((Below.refl _ _).alloc (Nat.le_refl _) _)) HF.out (by unfold maxLen; omega) (by omega) (by simp) ?_)
  intro v' w1 hown1 hgrow hne
  obtain ⟨g, cap, hv, hlo⟩ := own_form hown1 hne
  subst hv
  have HB : Hid (Below w.heap.size w w1) := ((Below.refl _ _).alloc (Nat.le_refl _) _).grown hgrow (by simp) (fun k hk => by simp [Value.ownBlock] at hk; omega)
  have HO := Lib.hid hown1
  clear hown1 hgrow hne
  go_wp2
  go_ret
  exact ⟨g, cap, rfl, hlo, HB.out, by rw [HFL.out]; exact HO.out⟩

/-- What AddTube returns: the network with one more tube, and the code. -/
def addOf (s : Int) (ts : List T3) (t : T3) : Int × List T3 × Int :=
  if netB s ts = true then (if tubeB s t = true then (if ts.length < 24 then (s, ts ++ [t], 0) else (0, [], 5)) else (0, [], 2)) else (0, [], 1)
theorem addOf_inv {s : Int} {ts : List T3} {t : T3} (h : netB s ts = false) : addOf s ts t = (0, [], 1) := by unfold addOf; rw [h]; rfl
theorem addOf_range {s : Int} {ts : List T3} {t : T3} (h : netB s ts = true) (h2 : tubeB s t = false) : addOf s ts t = (0, [], 2) := by unfold addOf; rw [h, h2]; rfl
theorem addOf_full {s : Int} {ts : List T3} {t : T3} (h : netB s ts = true) (h2 : tubeB s t = true) (h3 : ¬ ts.length < 24) : addOf s ts t = (0, [], 5) := by unfold addOf; rw [h, h2, if_neg h3]; rfl
theorem addOf_ok {s : Int} {ts : List T3} {t : T3} (h : netB s ts = true) (h2 : tubeB s t = true) (h3 : ts.length < 24) : addOf s ts t = (s, ts ++ [t], 0) := by unfold addOf; rw [h, h2, if_pos h3]; rfl

/-- A call hands back a network of its own and a code; nothing that was there has turned. -/
def GivesAdd (r : Int × List T3 × Int) (w : World) (e : Ending) (w' : World) : Prop :=
  ∃ a c, e = .returned (.tuple #[.agg #[.int .i64 r.1, .slice a r.2.1.length c], .int .i64 r.2.2]) ∧ Below w.heap.size w w' ∧ w'.ownsRow w.heap.size 36 3 (.slice a r.2.1.length c) r.2.1.length (flat r.2.1)
theorem givesAdd_none {r : Int × List T3 × Int} {k : Int} {w w' : World} {e : Ending} (hr : r = (0, [], k)) (he : e = .returned (.tuple #[.agg #[.int .i64 0, .slice none 0 0], .int .i64 k])) (hb : Below w.heap.size w w') : GivesAdd r w e w' := by
  subst hr
  exact ⟨none, 0, he, hb, World.ownsRow_nil _ _ _ _⟩

theorem news_oneT (t : T3) : ∀ u ∈ [Value.int .i64 t.1, .int .i64 t.2.1, .int .i64 t.2.2], u.oneCell' = true := by
  intro u hu
  simp at hu
  rcases hu with rfl | rfl | rfl <;> rfl
theorem givesAdd_ok {r : Int × List T3 × Int} {s : Int} {ts : List T3} {t : T3} {n g c : Nat} {w w' : World} {e : Ending} (hr : r = (s, ts ++ [t], 0)) (hn : ts.length = n) (he : e = .returned (.tuple #[.agg #[.int .i64 s, .slice (some ⟨g, 0, none⟩) (n + 1) c], .int .i64 0])) (hb : Below w.heap.size w w')
    (ho : w'.ownsRow w.heap.size 36 3 (.slice (some ⟨g, 0, none⟩) (n + 1) c) (n + 1) (flat ts ++ [.int .i64 t.1, .int .i64 t.2.1, .int .i64 t.2.2])) : GivesAdd r w e w' := by
  subst hr
  have hl : (ts ++ [t]).length = n + 1 := by simp [hn]
  refine ⟨some ⟨g, 0, none⟩, c, by rw [hl]; exact he, hb, ?_⟩
  show w'.ownsRow _ _ 3 (.slice _ (ts ++ [t]).length c) (ts ++ [t]).length (flat (ts ++ [t]))
  rw [hl, flat_app]
  exact ho
/-- The three boxes of AddTube: the network, the tube, the result. -/
def Boxes (W : World) (B : Nat) (s : Int) (v : Value) (t : T3) : Prop :=
  B + 1 + 1 < W.heap.size ∧ W.cell? ⟨B, 0, none⟩ = some (.int .i64 s) ∧ W.cell? ⟨B, 1, none⟩ = some v ∧ W.cell? ⟨B + 1, 0, none⟩ = some (.int .i64 t.1) ∧ W.cell? ⟨B + 1, 1, none⟩ = some (.int .i64 t.2.1) ∧ W.cell? ⟨B + 1, 2, none⟩ = some (.int .i64 t.2.2) ∧
    W.cell? ⟨B + 1 + 1, 0, none⟩ = some (.int .i64 0) ∧ W.cell? ⟨B + 1 + 1, 1, none⟩ = some (.slice none 0 0) ∧ W.frozen? ⟨B + 1 + 1, 0, none⟩ = false ∧ W.frozen? ⟨B + 1 + 1, 1, none⟩ = false
theorem Boxes.below {W W' : World} {B : Nat} {s : Int} {v : Value} {t : T3} (h : Boxes W B s v t) (hb : Below W.heap.size W W') : Boxes W' B s v t := by
  obtain ⟨hl, h1, h2, h3, h4, h5, h6, h7, h8, h9⟩ := h
  obtain ⟨hc, hf⟩ := bcell hb
  refine ⟨Nat.lt_of_lt_of_le hl hb.size, ?_, ?_, ?_, ?_, ?_, ?_, ?_, ?_, ?_⟩
  all_goals first | (rw [hc _ _ (by omega)]; assumption) | (rw [hf _ _ (by omega)]; assumption)
theorem Boxes.grown {W W' : World} {B g : Nat} {s : Int} {v : Value} {t : T3} (h : Boxes W B s v t) (hg : W.grownBy W' (some g)) (hlt : B + 1 + 1 < g) : Boxes W' B s v t := by
  obtain ⟨hl, h1, h2, h3, h4, h5, h6, h7, h8, h9⟩ := h
  have hc : ∀ b o, b < W.heap.size → b ≠ g → W'.cell? ⟨b, o, none⟩ = W.cell? ⟨b, o, none⟩ := fun b o hb hne => World.cell?_of_block (hg.block b hb (by simpa using hne))
  have hf : ∀ b o, b < W.heap.size → b ≠ g → W'.frozen? ⟨b, o, none⟩ = W.frozen? ⟨b, o, none⟩ := fun b o hb hne => World.frozen?_of_block (hg.block b hb (by simpa using hne))
  refine ⟨Nat.lt_of_lt_of_le hl hg.size, ?_, ?_, ?_, ?_, ?_, ?_, ?_, ?_, ?_⟩
  all_goals first | (rw [hc _ _ (by omega) (by omega)]; assumption) | (rw [hf _ _ (by omega) (by omega)]; assumption)
theorem five {W : World} {B : Nat} {s : Int} {v : Value} {t : T3} (h : Boxes W B s v t) : W.cell? ⟨B, 0, none⟩ = some (.int .i64 s) ∧ W.cell? ⟨B, 1, none⟩ = some v ∧ W.cell? ⟨B + 1, 0, none⟩ = some (.int .i64 t.1) ∧ W.cell? ⟨B + 1, 1, none⟩ = some (.int .i64 t.2.1) ∧ W.cell? ⟨B + 1, 2, none⟩ = some (.int .i64 t.2.2) :=
  ⟨h.2.1, h.2.2.1, h.2.2.2.1, h.2.2.2.2.1, h.2.2.2.2.2.1⟩
theorem Boxes.start (w : World) (s : Int) (v0 : Option Addr) (n ca : Nat) (t : T3) (T U : TypeId) :
    Boxes (((w.alloc (.cells #[.int .i64 s, .slice v0 n ca] T)).alloc (.cells #[.int .i64 t.1, .int .i64 t.2.1, .int .i64 t.2.2] U)).alloc (.cells #[.int .i64 0, .slice none 0 0] T)) w.heap.size s (.slice v0 n ca) t := by
  refine ⟨by simp, ?_, ?_, ?_, ?_, ?_, ?_, ?_, ?_, ?_⟩
  all_goals simp [go_sem]
theorem boxes_below (w : World) (s : Int) (v0 : Option Addr) (n ca : Nat) (t : T3) (T U : TypeId) :
    Below w.heap.size w (((w.alloc (.cells #[.int .i64 s, .slice v0 n ca] T)).alloc (.cells #[.int .i64 t.1, .int .i64 t.2.1, .int .i64 t.2.2] U)).alloc (.cells #[.int .i64 0, .slice none 0 0] T)) := (by repeat (first | exact Below.refl _ _ | refine Below.alloc ?_ (by simp; try omega) _ | refine Below.setCell ?_ (by simp; try omega) _))

set_option maxRecDepth 100000 in
set_option maxHeartbeats 1000000 in
theorem implAddTube_any (s : Int) (t : T3) (b : Nat) (ts : List T3) (n ca : Nat) (w : World) (hn : Hid (ts.length = n)) (ha : RT w (some ⟨b, 0, none⟩) ts) (hmax : n ≤ 1048576) :
    Calls Try.prog 12 #[.agg #[.int .i64 s, .slice (some ⟨b, 0, none⟩) n ca], .agg #[.int .i64 t.1, .int .i64 t.2.1, .int .i64 t.2.2]] w (GivesAdd (addOf s ts t) w) := by
  have HA : Hid (∀ w', Below w.heap.size w w' → RT w' (some ⟨b, 0, none⟩) ts) := fun w' h => ha.below h
  clear ha
  cases hv : netB s ts with
  | false =>
    have HR := Lib.hid (addOf_inv (t := t) hv)
    go_enter Try.func12, Try.ntmps12
    go_wp2_with fail
    refine (implValidNet_any s _ ts n ca _ hn (HA.out _ (boxes_below _ _ _ _ _ _ _ _)) hmax).mono ?_
    rintro e w1 ⟨rfl, hb1⟩
    have X1 := Lib.hid ((Boxes.start w s _ n ca t _ _).below hb1)
    have B1 := Lib.hid ((boxes_below w s (some ⟨b, 0, none⟩) n ca t 26 36).trans (hb1.mono (by simp; omega)))
    obtain ⟨hl, p0, p1, t0, t1, t2, r0, r1, r2, r3⟩ := X1.out
    clear hb1
    go_wp2
    exact bodyPost_ret (v := .tuple #[.agg #[.int .i64 0, .slice none 0 0], .int .i64 1]) (by simp [results, Try.results12, go_sem, r0, r1]) rfl (givesAdd_none HR.out rfl ((B1.out.setCell (by simp; omega) _).setCell (by simp; omega) _))
  | true =>
    cases ht : tubeB s t with
    | false =>
      have HR := Lib.hid (addOf_range hv ht)
      go_enter Try.func12, Try.ntmps12
      go_wp2_with fail
      refine (implValidNet_any s _ ts n ca _ hn (HA.out _ (boxes_below _ _ _ _ _ _ _ _)) hmax).mono ?_
      rintro e w1 ⟨rfl, hb1⟩
      have X1 := Lib.hid ((Boxes.start w s _ n ca t _ _).below hb1)
      have B1 := Lib.hid ((boxes_below w s (some ⟨b, 0, none⟩) n ca t 26 36).trans (hb1.mono (by simp; omega)))
      obtain ⟨hl, p0, p1, t0, t1, t2, r0, r1, r2, r3⟩ := X1.out
      clear hb1
      go_wp2_with fail
      refine (fitsNet_any t s _ _ _ _).mono ?_
      rintro e w2 ⟨rfl, hb2⟩
      have X2 := X1.out.below hb2
      have B2 := Lib.hid (two_worldsC B1.out hb2)
      clear hb2 p0 p1 t0 t1 t2 r0 r1 r2 r3
      obtain ⟨hl, p0, p1, t0, t1, t2, r0, r1, r2, r3⟩ := X2
      go_wp2
      exact bodyPost_ret (v := .tuple #[.agg #[.int .i64 0, .slice none 0 0], .int .i64 2]) (by simp [results, Try.results12, go_sem, r0, r1]) rfl (givesAdd_none HR.out rfl ((B2.out.setCell (by simp; omega) _).setCell (by simp; omega) _))
    | true =>
      by_cases h24 : n < 24
      · have HR := Lib.hid (addOf_ok hv ht (by rw [hn.out]; exact h24))
        have e24 : ((n : Int) == 24) = false := by simp; omega
        go_enter Try.func12, Try.ntmps12
        go_wp2_with fail
        refine (implValidNet_any s _ ts n ca _ hn (HA.out _ (boxes_below _ _ _ _ _ _ _ _)) hmax).mono ?_
        rintro e w1 ⟨rfl, hb1⟩
        have X1 := Lib.hid ((Boxes.start w s _ n ca t _ _).below hb1)
        have B1 := Lib.hid ((boxes_below w s (some ⟨b, 0, none⟩) n ca t 26 36).trans (hb1.mono (by simp; omega)))
        obtain ⟨hl, p0, p1, t0, t1, t2, r0, r1, r2, r3⟩ := X1.out
        clear hb1
        go_wp2_with fail
        refine (fitsNet_any t s _ _ _ _).mono ?_
        rintro e w2 ⟨rfl, hb2⟩
        have X2 := Lib.hid (X1.out.below hb2)
        have B2 := Lib.hid (two_worldsC B1.out hb2)
        clear hb2 p0 p1 t0 t1 t2 r0 r1 r2 r3
        obtain ⟨hl, p0, p1, t0, t1, t2, r0, r1, r2, r3⟩ := X2.out
        have hws : w.heap.size ≤ w2.heap.size := B2.out.size
        have HW : Hid (w.heap.size + 1 + 1 < w2.heap.size) := hl
        have HI : Hid (∃ i0 : TypeInfo, Try.prog.info? 36 = some i0 ∧ i0.zero = some (.agg #[.int .i64 0, .int .i64 0, .int .i64 0]) ∧ i0.size = 3 ∧ i0.bytes = 24) := info_parts info36
        have XD : Hid (Boxes w2.drew w.heap.size s (.slice (some ⟨b, 0, none⟩) n ca) t) := X2.out
        go_wp2_with fail
        go_region_held3 (fun w' => w'.cell? ⟨w.heap.size, 0, none⟩ = some (.int .i64 s) ∧ w'.cell? ⟨w.heap.size, 1, none⟩ = some (.slice (some ⟨b, 0, none⟩) n ca) ∧ w'.cell? ⟨w.heap.size + 1, 0, none⟩ = some (.int .i64 t.1) ∧ w'.cell? ⟨w.heap.size + 1, 1, none⟩ = some (.int .i64 t.2.1) ∧ w'.cell? ⟨w.heap.size + 1, 2, none⟩ = some (.int .i64 t.2.2))
          (first | exact five XD.out | exact five (XD.out.below hb3) | exact five (XD.out.below ((Below.refl _ _).alloc (Nat.le_refl _) _)) | exact five ((XD.out.below hb3).below ((Below.refl _ _).alloc (Nat.le_refl _) _)) | exact five ((XD.out.below ((Below.refl _ _).alloc (Nat.le_refl _) _)).below hb3) | exact ⟨q50, q51, q52, q53, q54⟩ | (simp [go_sem, q50, q51, q52, q53, q54]; done))
          (first | (go_at_call 21; refine (cloneT_any b ts n ca _ hn (HA.out _ (by first | exact B2.out.drew | exact B2.out.drew.alloc hws _)) hmax).mono ?_; rintro e w3 ⟨g3, c3, rfl, hg3, hb3, ho3⟩) | ((refine step_append_lies _ (by rfl) _ _ 24 (by rfl) w2.heap.size 36 HI.out.choose (.agg #[.int .i64 0, .int .i64 0, .int .i64 0]) 3 24 Try.underlying24 HI.out.choose_spec.1 HI.out.choose_spec.2.1 HI.out.choose_spec.2.2.1 HI.out.choose_spec.2.2.2 rfl (by decide) (.slice (some ⟨g3, 0, none⟩) n c3) n (flat ts) (by rfl) (own_lo (ho3.alloc _) (by simp)) ⟨w3.heap.size, 0, none⟩ 1 1 [.int .i64 t.1, .int .i64 t.2.1, .int .i64 t.2.2] (by rfl) rfl (World.news_of_block (heap_alloc_new w3 _)) (news_oneT t) (by decide) (by unfold maxLen; omega) (by omega) (by have := hb3.size; simp at this ⊢; omega) _ rfl ?_; intro g cap w5 hown1 hgrow hat hlt; have HBW : Hid (Below w.heap.size w w5) := ((B2.out.drew.trans (hb3.mono hws)).alloc (by have := hb3.size; simp at this; omega) _).grown hgrow (by have := hb3.size; simp at this ⊢; omega) (fun k hk => by have h3 := hg3; simp [Value.ownBlock] at hk h3; omega); obtain ⟨ql, q50, q51, q52, q53, q54, q55, q56, q57, q58⟩ := ((XD.out.below hb3).below ((Below.refl _ _).alloc (Nat.le_refl _) _)).grown (g := g3) hgrow (by have := HW.out; have h3 := hg3; try simp at h3; omega))) | ((refine step_append_lies _ (by rfl) _ _ 24 (by rfl) w2.heap.size 36 HI.out.choose (.agg #[.int .i64 0, .int .i64 0, .int .i64 0]) 3 24 Try.underlying24 HI.out.choose_spec.1 HI.out.choose_spec.2.1 HI.out.choose_spec.2.2.1 HI.out.choose_spec.2.2.2 rfl (by decide) (.slice (some ⟨g3, 0, none⟩) n c3) n (flat ts) (by rfl) (own_lo ho3 (by simp)) ⟨w2.heap.size, 0, none⟩ 1 1 [.int .i64 t.1, .int .i64 t.2.1, .int .i64 t.2.2] (by rfl) rfl (World.news_of_block ((hb3.block _ (by simp)).trans (heap_alloc_new _ _))) (news_oneT t) (by decide) (by unfold maxLen; omega) (by omega) (by have := hb3.size; simp at this ⊢; omega) _ rfl ?_; intro g cap w5 hown1 hgrow hat hlt; have HBW : Hid (Below w.heap.size w w5) := ((B2.out.drew.alloc hws _).trans (hb3.mono (by simp; omega))).grown hgrow (by have := hb3.size; simp at this ⊢; omega) (fun k hk => by have h3 := hg3; simp [Value.ownBlock] at hk h3; omega); obtain ⟨ql, q50, q51, q52, q53, q54, q55, q56, q57, q58⟩ := ((XD.out.below ((Below.refl _ _).alloc (Nat.le_refl _) _)).below hb3).grown (g := g3) hgrow (by have := HW.out; have h3 := hg3; try simp at h3; omega))))
        all_goals
          have hg := hown1.lt g rfl
          have HG : Hid (w.heap.size + 1 + 1 < g) := by have := HW.out; unfold Hid; omega
          have HO := Lib.hid hown1
          clear hown1 hgrow hat hlt hg
          go_wp2
          exact bodyPost_ret (v := .tuple #[.agg #[.int .i64 s, .slice (some ⟨g, 0, none⟩) (n + 1) cap], .int .i64 0]) (by simp [results, Try.results12, go_sem, q55, q56]) rfl (givesAdd_ok HR.out hn.out rfl ((HBW.out.setCell (by simp; omega) _).setCell (by simp; omega) _) (own_lo (ownsRow_setCell_other (ownsRow_setCell_other HO.out (by have := HG.out; simp [Value.ownBlock]; omega) _) (by have := HG.out; simp [Value.ownBlock]; omega) _) hws))
      · have HR := Lib.hid (addOf_full hv ht (by rw [hn.out]; exact h24))
        have hle := (netB_parts hv).2.2.1
        rw [hn.out] at hle
        have e24 : ((n : Int) == 24) = true := by simp; omega
        go_enter Try.func12, Try.ntmps12
        go_wp2_with fail
        refine (implValidNet_any s _ ts n ca _ hn (HA.out _ (boxes_below _ _ _ _ _ _ _ _)) hmax).mono ?_
        rintro e w1 ⟨rfl, hb1⟩
        have X1 := Lib.hid ((Boxes.start w s _ n ca t _ _).below hb1)
        have B1 := Lib.hid ((boxes_below w s (some ⟨b, 0, none⟩) n ca t 26 36).trans (hb1.mono (by simp; omega)))
        obtain ⟨hl, p0, p1, t0, t1, t2, r0, r1, r2, r3⟩ := X1.out
        clear hb1
        go_wp2_with fail
        refine (fitsNet_any t s _ _ _ _).mono ?_
        rintro e w2 ⟨rfl, hb2⟩
        have X2 := X1.out.below hb2
        have B2 := Lib.hid (two_worldsC B1.out hb2)
        clear hb2 p0 p1 t0 t1 t2 r0 r1 r2 r3
        obtain ⟨hl, p0, p1, t0, t1, t2, r0, r1, r2, r3⟩ := X2
        go_wp2
        exact bodyPost_ret (v := .tuple #[.agg #[.int .i64 0, .slice none 0 0], .int .i64 5]) (by simp [results, Try.results12, go_sem, r0, r1]) rfl (givesAdd_none HR.out rfl ((B2.out.setCell (by simp; omega) _).setCell (by simp; omega) _))
end Go.Proofs.Ytbndminegokffaa
