/-
  NearestAddress: what it answers, and the model's walk.
-/
import Derived.Test.YtpkkibnpjhlfmaaDoorByDist
import Derived.Test.YtpkkibnpjhlfmaaDoorAddAdr
namespace Go.Proofs.YtpkkibnpjhlfmaaDoor
open Go.RowKit

def nearAns (g : Int) (ss : List ByteArray) (s : ByteArray) : Int × Int × Int :=
  if okB g (bls ss) = true then (if wordB g.toNat (bl s) = true then (if ss.length = 0 then (0, 0, 3) else if s.size = lenA ss then (if 1 < (scanN (farS ss s) ss.length).2 then (0, 0, 9) else ((((scanN (farS ss s) ss.length).1 : Nat) : Int), ((farS ss s (scanN (farS ss s) ss.length).1 : Nat) : Int), 0)) else (0, 0, 8)) else (0, 0, 2)) else (0, 0, 1)
theorem nearAns_bad {g : Int} {ss : List ByteArray} {s : ByteArray} (h : okB g (bls ss) = false) : nearAns g ss s = (0, 0, 1) := by unfold nearAns; rw [if_neg (by rw [h]; simp)]
theorem nearAns_word {g : Int} {ss : List ByteArray} {s : ByteArray} (h : okB g (bls ss) = true) (h2 : wordB g.toNat (bl s) = false) : nearAns g ss s = (0, 0, 2) := by unfold nearAns; rw [if_pos h, if_neg (by rw [h2]; simp)]
theorem nearAns_none {g : Int} {ss : List ByteArray} {s : ByteArray} (h : okB g (bls ss) = true) (h2 : wordB g.toNat (bl s) = true) (h3 : ss.length = 0) : nearAns g ss s = (0, 0, 3) := by unfold nearAns; rw [if_pos h, if_pos h2, if_pos h3]
theorem nearAns_len {g : Int} {ss : List ByteArray} {s : ByteArray} (h : okB g (bls ss) = true) (h2 : wordB g.toNat (bl s) = true) (h3 : ¬ ss.length = 0) (h4 : ¬ s.size = lenA ss) : nearAns g ss s = (0, 0, 8) := by unfold nearAns; rw [if_pos h, if_pos h2, if_neg h3, if_neg h4]
theorem nearAns_clash {g : Int} {ss : List ByteArray} {s : ByteArray} (h : okB g (bls ss) = true) (h2 : wordB g.toNat (bl s) = true) (h3 : ¬ ss.length = 0) (h4 : s.size = lenA ss) (h5 : 1 < (scanN (farS ss s) ss.length).2) : nearAns g ss s = (0, 0, 9) := by unfold nearAns; rw [if_pos h, if_pos h2, if_neg h3, if_pos h4, if_pos h5]
theorem nearAns_one {g : Int} {ss : List ByteArray} {s : ByteArray} (h : okB g (bls ss) = true) (h2 : wordB g.toNat (bl s) = true) (h3 : ¬ ss.length = 0) (h4 : s.size = lenA ss) (h5 : ¬ 1 < (scanN (farS ss s) ss.length).2) : nearAns g ss s = ((((scanN (farS ss s) ss.length).1 : Nat) : Int), ((farS ss s (scanN (farS ss s) ss.length).1 : Nat) : Int), 0) := by unfold nearAns; rw [if_pos h, if_pos h2, if_neg h3, if_pos h4, if_neg h5]
def Trip (r : Int × Int × Int) (w : World) (e : Ending) (w' : World) : Prop := e = .returned (.tuple #[.int .i64 r.1, .int .i64 r.2.1, .int .i64 r.2.2]) ∧ Below w.heap.size w w'
theorem trip_of {r : Int × Int × Int} {a b c : Int} {w w' : World} (h : r = (a, b, c)) (hb : Below w.heap.size w w') : Trip r w (.returned (.tuple #[.int .i64 a, .int .i64 b, .int .i64 c])) w' := by
  subst h; exact ⟨rfl, hb⟩
theorem farS_le {ss : List ByteArray} {s : ByteArray} (HE : ∀ t ∈ ss, t.size = s.size) (h8 : s.size ≤ 8) (i : Nat) (hi : i < ss.length) : farS ss s i ≤ 8 := by
  rw [farS_at hi rfl]
  have := farL_le (bl ss[i]) (bl s)
  rw [bl_length, HE _ (List.getElem_mem _)] at this
  omega

set_option maxRecDepth 100000 in
set_option maxHeartbeats 8000000 in
theorem specNear_any (g : Int) (a : Option Addr) (ss : List ByteArray) (n ca : Nat) (s : ByteArray) (w : World) (hn : Hid (ss.length = n)) (ha : RS w a ss) (hmax : n ≤ 1048576) (hsz : Hid (∀ s ∈ ss, s.size ≤ 1048576)) (hs : s.size ≤ 1048576) :
    Calls Tryd.prog 9 #[.int .i64 g, .slice a n ca, .string s] w (Trip (nearAns g ss s) w) := by
  have HV := l05Ok_any g a ss n ca w hn ha hmax hsz
  have HA : Hid (∀ W, Below w.heap.size w W → RS W a ss) := fun W hB => ha.below hB
  clear ha
  cases ho : okB g (bls ss) with
  | false =>
    have HR := Lib.hid (nearAns_bad (s := s) ho)
    rw [ho] at HV
    go_enter Tryd.func9, Tryd.ntmps9
    go_wp2_with (first | (go_at_call 49; refine HV.mono ?_; rintro e w1 ⟨rfl, hb1⟩))
    exact bodyPost_ret (v := .tuple #[.int .i64 0, .int .i64 0, .int .i64 1]) (by simp [results, Tryd.results9, go_sem]) rfl (trip_of HR.out hb1)
  | true =>
    rw [ho] at HV
    obtain ⟨p1, p2, p3⟩ := ok_parts ho
    obtain ⟨gn, rfl⟩ : ∃ gn : Nat, g = gn := ⟨g.toNat, by omega⟩
    have HWD := fun W => l05Word_any gn (by omega) (by omega) s hs W
    cases hw : wordB gn (bl s) with
    | false =>
      have HR := Lib.hid (nearAns_word ho (by rw [Int.toNat_natCast]; exact hw))
      rw [hw] at HWD
      go_enter Tryd.func9, Tryd.ntmps9
      go_wp2_with (first | (go_at_call 49; refine HV.mono ?_; rintro e w1 ⟨rfl, hb1⟩) | (go_at_call 50; refine (HWD _).mono ?_; rintro e w2 ⟨rfl, rfl⟩))
      exact bodyPost_ret (v := .tuple #[.int .i64 0, .int .i64 0, .int .i64 2]) (by simp [results, Tryd.results9, go_sem]) rfl (trip_of HR.out hb1)
    | true =>
      rw [hw] at HWD
      have hw' : wordB (gn : Int).toNat (bl s) = true := by rw [Int.toNat_natCast]; exact hw
      by_cases h0 : n = 0
      · have HR := Lib.hid (nearAns_none ho hw' (by rw [hn.out]; exact h0))
        have hn0 : ((n : Int) == 0) = true := by simp [h0]
        clear h0
        go_enter Tryd.func9, Tryd.ntmps9
        go_wp2_with (first | (go_at_call 49; refine HV.mono ?_; rintro e w1 ⟨rfl, hb1⟩) | (go_at_call 50; refine (HWD _).mono ?_; rintro e w2 ⟨rfl, rfl⟩))
        exact bodyPost_ret (v := .tuple #[.int .i64 0, .int .i64 0, .int .i64 3]) (by simp [results, Tryd.results9, go_sem]) rfl (trip_of HR.out hb1)
      · have h0l : 0 < ss.length := by rw [hn.out]; omega
        have hne : ¬ ss.length = 0 := by omega
        obtain ⟨l1, l8, hle⟩ := ok_first ho h0l
        obtain ⟨b, off, rfl, hb, hc⟩ := (HA.out w (Below.refl _ _)).addr h0l
        have HC : Hid (∀ W, Below w.heap.size w W → ∀ i (h : i < ss.length), W.cell? ⟨b, off + i, none⟩ = some (.string ss[i])) := fun W hB i h => (hB.cell (p := ⟨b, off + i, none⟩) hb).trans (hc i h)
        obtain ⟨t0, ht0⟩ : ∃ t0, ss[0] = t0 := ⟨_, rfl⟩
        have HLA := Lib.hid (getD0 h0l ht0)
        have HZ0 : Hid (∀ W, Below w.heap.size w W → W.cell? ⟨b, off, none⟩ = some (.string t0)) := fun W hB => by have := HC.out W hB 0 h0l; rw [ht0, Nat.add_zero] at this; exact this
        have hn40 : n ≤ 40 := by rw [← hn.out]; exact p3
        have hn0 : ((n : Int) == 0) = false := by simp; omega
        have hnp : (0 : Int) < (n : Int) := by omega
        rw [HLA.out] at l1 l8
        clear hc ht0
        by_cases hl : s.size = t0.size
        · have hs8 : s.size ≤ 8 := by omega
          have HE : Hid (∀ t ∈ ss, t.size = s.size) := fun t ht => by rw [hle t ht, HLA.out, hl]
          have HF8 : Hid (∀ i, i < n → farS ss s i ≤ 8) := fun i hi => farS_le HE.out hs8 i (by rw [hn.out]; exact hi)
          have HR1 := fun h5 => Lib.hid (nearAns_clash ho hw' hne (by rw [HLA.out]; exact hl) h5)
          have HR2 := fun h5 => Lib.hid (nearAns_one ho hw' hne (by rw [HLA.out]; exact hl) h5)
          rw [hn.out] at HR1 HR2
          have HR1 := Lib.hid HR1
          have HR2 := Lib.hid HR2
          have hll : ((s.size : Int) != (t0.size : Int)) = false := by simp [hl]
          clear hle hl hw hw' ho
          go_enter Tryd.func9, Tryd.ntmps9
          go_wp2_with (first | (go_at_call 49; refine HV.mono ?_; rintro e w1 ⟨rfl, hb1⟩; have z1 := HZ0.out w1 hb1) | (go_at_call 50; refine (HWD _).mono ?_; rintro e w2 ⟨rfl, rfl⟩))
          have HB1 := Lib.hid hb1
          clear hb1 z1 HV HWD
          go_loopw [9, 10, 11] (fun bv mv iv wr => ∃ i : Nat, i ≤ n ∧ iv = .int .i64 (i : Int) ∧ bv = .int .i64 ((scanN (farS ss s) i).1 : Nat) ∧ mv = .int .i64 ((scanN (farS ss s) i).2 : Nat) ∧ Hid (Below w.heap.size w wr)) (fun _ _ iv _ => n - (intOf iv).toNat)
          case atStart => exact ⟨0, by omega, rfl, rfl, rfl, HB1.out⟩
          case round =>
            obtain ⟨i, hi, rfl, rfl, rfl, HBW⟩ := hrel
            by_cases hlt : i < n
            · have hia : i < ss.length := by rw [hn.out]; exact hlt
              have hbn := scanN_bound (farS ss s) i
              have hlt1 := Lib.hid (@scanN_less (farS ss s) i)
              have hlt2 := Lib.hid (@scanN_same (farS ss s) i)
              have hlt3 := Lib.hid (@scanN_more (farS ss s) i)
              obtain ⟨B, M, hBM⟩ : ∃ B M, scanN (farS ss s) i = (B, M) := ⟨_, _, rfl⟩
              rw [hBM] at hlt1 hlt2 hlt3 hbn
              simp only [hBM]
              clear hBM
              simp only at hbn hlt1 hlt2 hlt3
              obtain ⟨hb1, hb2⟩ := hbn
              have hBa : B < ss.length := by omega
              obtain ⟨t, ht⟩ : ∃ t, ss[i] = t := ⟨_, rfl⟩
              obtain ⟨u, hu⟩ : ∃ u, ss[B] = u := ⟨_, rfl⟩
              have x1 := HC.out wr HBW.out i hia
              have x2 := HC.out wr HBW.out B hBa
              rw [ht] at x1
              rw [hu] at x2
              have hts : t.size = s.size := by rw [← ht]; exact HE.out _ (List.getElem_mem _)
              have hus : u.size = s.size := by rw [← hu]; exact HE.out _ (List.getElem_mem _)
              have HT := fun W => l05Far_any t s hts (by omega) W
              have HU := fun W => l05Far_any u s hus (by omega) W
              rw [← farS_at hia ht] at HT
              rw [← farS_at hBa hu] at HU
              have hk0 : (0 : Int) ≤ (i : Int) := by omega
              have hk1 : (i : Int) < (n : Int) := by omega
              have hj0 : (0 : Int) ≤ (B : Int) := by omega
              have hj1 : (B : Int) < (n : Int) := by omega
              clear ht hu
              rcases Nat.lt_trichotomy (farS ss s i) (farS ss s B) with h | h | h
              · have HN := Lib.hid (hlt1.out h)
                generalize farS ss s i = dt at HT h
                generalize farS ss s B = du at HU h
                have c1 : (dt : Int) < (du : Int) := by omega
                have c2 : (dt : Int) ≤ (du : Int) := by omega
                clear h hlt1 hlt2 hlt3
                go_wp2_with fail
                refine (HT _).mono ?_
                rintro e w3 ⟨rfl, q, rfl⟩
                obtain ⟨W3, HW3⟩ : ∃ W3, W3 = wr.drewN q := ⟨_, rfl⟩
                have x3 : W3.cell? ⟨b, off + B, none⟩ = some (.string u) := by rw [HW3]; exact x2
                rw [← HW3]
                go_wp2_with fail
                refine (HU _).mono ?_
                rintro e w4 ⟨rfl, q2, rfl⟩
                go_wp2
                go_roundw
                case rel => exact ⟨i + 1, by omega, by go_num, by rw [HN.out], by rw [HN.out]; rfl, Below.drewN' HBW.out _⟩
                case measure => simp [intOf]; omega
              · have HN := Lib.hid (hlt2.out h)
                generalize farS ss s i = dt at HT h
                generalize farS ss s B = du at HU h
                have c1 : ¬ (dt : Int) < (du : Int) := by omega
                have c2 : (dt : Int) ≤ (du : Int) := by omega
                clear h hlt1 hlt2 hlt3
                go_wp2_with fail
                refine (HT _).mono ?_
                rintro e w3 ⟨rfl, q, rfl⟩
                obtain ⟨W3, HW3⟩ : ∃ W3, W3 = wr.drewN q := ⟨_, rfl⟩
                have x3 : W3.cell? ⟨b, off + B, none⟩ = some (.string u) := by rw [HW3]; exact x2
                rw [← HW3]
                go_wp2_with fail
                refine (HU _).mono ?_
                rintro e w4 ⟨rfl, q2, rfl⟩
                go_wp2
                go_roundw
                case rel => exact ⟨i + 1, by omega, by go_num, by rw [HN.out], by rw [HN.out]; go_num, Below.drewN' HBW.out _⟩
                case measure => simp [intOf]; omega
              · have HN := Lib.hid (hlt3.out h)
                generalize farS ss s i = dt at HT h
                generalize farS ss s B = du at HU h
                have c1 : ¬ (dt : Int) < (du : Int) := by omega
                have c2 : ¬ (dt : Int) ≤ (du : Int) := by omega
                clear h hlt1 hlt2 hlt3
                go_wp2_with fail
                refine (HT _).mono ?_
                rintro e w3 ⟨rfl, q, rfl⟩
                obtain ⟨W3, HW3⟩ : ∃ W3, W3 = wr.drewN q := ⟨_, rfl⟩
                have x3 : W3.cell? ⟨b, off + B, none⟩ = some (.string u) := by rw [HW3]; exact x2
                rw [← HW3]
                go_wp2_with fail
                refine (HU _).mono ?_
                rintro e w4 ⟨rfl, q2, rfl⟩
                go_wp2
                go_roundw
                case rel => exact ⟨i + 1, by omega, by go_num, by rw [HN.out], by rw [HN.out], Below.drewN' HBW.out _⟩
                case measure => simp [intOf]; omega
            · have hin : i = n := by omega
              subst hin
              have hsp := scanN_at (farS ss s) (show 0 < i by omega)
              have hbn := scanN_bound (farS ss s) i
              have hBa : (scanN (farS ss s) i).1 < ss.length := by rw [hn.out]; exact hsp.1
              have hB1 := hsp.1
              clear hsp
              generalize scanN (farS ss s) i = R at HR1 HR2 hbn hBa hB1
              obtain ⟨B, M⟩ := R
              simp only at HR1 HR2 hbn hBa hB1
              by_cases hm : 1 < M
              · have HR := HR1.out hm
                have hm' : (1 : Int) < (M : Int) := by omega
                clear hm
                go_wp2
                exact bodyPost_ret (v := .tuple #[.int .i64 0, .int .i64 0, .int .i64 9]) (by simp [results, Tryd.results9, go_sem]) rfl (trip_of HR.out HBW.out)
              · have HR := HR2.out hm
                have hm' : ¬ (1 : Int) < (M : Int) := by omega
                obtain ⟨u, hu⟩ : ∃ u, ss[B] = u := ⟨_, rfl⟩
                have x2 := HC.out wr HBW.out B hBa
                rw [hu] at x2
                have hus : u.size = s.size := by rw [← hu]; exact HE.out _ (List.getElem_mem _)
                have HU := fun W => l05Far_any u s hus (by omega) W
                rw [← farS_at hBa hu] at HU
                have hj0 : (0 : Int) ≤ (B : Int) := by omega
                have hj1 : (B : Int) < (i : Int) := by omega
                generalize farS ss s B = du at HU HR
                clear hu hm
                go_wp2_with (fail)
                refine (HU _).mono ?_
                rintro e w3 ⟨rfl, q, rfl⟩
                go_wp2
                exact bodyPost_ret (v := .tuple #[.int .i64 (B : Nat), .int .i64 (du : Nat), .int .i64 0]) (by simp [results, Tryd.results9, go_sem]) rfl (trip_of HR.out (Below.drewN' HBW.out _))
        · have HR := Lib.hid (nearAns_len ho hw' hne (by rw [HLA.out]; exact hl))
          have hll : ((s.size : Int) != (t0.size : Int)) = true := by simp; omega
          clear hle hl
          go_enter Tryd.func9, Tryd.ntmps9
          go_wp2_with (first | (go_at_call 49; refine HV.mono ?_; rintro e w1 ⟨rfl, hb1⟩; have z1 := HZ0.out w1 hb1) | (go_at_call 50; refine (HWD _).mono ?_; rintro e w2 ⟨rfl, rfl⟩))
          exact bodyPost_ret (v := .tuple #[.int .i64 0, .int .i64 0, .int .i64 8]) (by simp [results, Tryd.results9, go_sem]) rfl (trip_of HR.out hb1)
end Go.Proofs.YtpkkibnpjhlfmaaDoor
