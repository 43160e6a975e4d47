/-
  Parse of the program's log, walked.
-/
import Derived.Test.YthmkgfdglkdjmadGreatDoorLogParse
namespace Go.Proofs.YthmkgfdglkdjmadGreatDoor
open Go.RowKit

theorem ofT_inj {a b : T} (h : ofT a = ofT b) : a = b := by rw [← keyT_ofT a, ← keyT_ofT b, h]
set_option maxHeartbeats 2000000 in
theorem equalB_calls (l m : T) (lb : Option Addr) (ln lc : Nat) (mb : Option Addr) (mn mc : Nat) (w : World) (hl : BytesIn w lb ln lc l) (hm : BytesIn w mb mn mc m) :
    Calls Tryz.prog 48 #[.slice lb ln lc, .slice mb mn mc] w fun e w' => (∃ b, e = .returned (.bool b) ∧ (b = true ↔ l = m)) ∧ w' = w := by
  have h1 := bytes_text hl 63 9 5 Tryz.underlying63 Tryz.underlying5 Tryz.underlying9
  have h2 := bytes_text hm 63 9 5 Tryz.underlying63 Tryz.underlying5 Tryz.underlying9
  have HE : Hid (((ofT l).toList == (ofT m).toList) = true ↔ l = m) := by
    show _ ↔ _
    rw [beq_iff_eq]
    exact ⟨fun e => ofT_inj (toList_inj e), fun e => by rw [e]⟩
  clear hl hm
  generalize ofT l = x at *
  generalize ofT m = y at *
  go_enter Tryz.func48, Tryz.ntmps48
  go_wp2
  go_ret
  exact ⟨⟨_, rfl, HE.out⟩, rfl⟩

/-- A part that is not all of the room. -/
theorem bytes_cut {w : World} {b o n c i j : Nat} {l : T} (h : BytesIn w (some ⟨b, o, none⟩) n c l) (hij : i ≤ j) (hj : j ≤ n) (hi : i < c) : BytesIn w (some ⟨b, o + i, none⟩) (j - i) (c - i) ((l.take j).drop i) := by
  have h1 := bytes_part h hij hj
  have e : cutB (some ⟨b, o, none⟩) c i 1 = some ⟨b, o + i, none⟩ := by
    unfold cutB
    rw [if_neg (by omega), Option.map_some, Nat.mul_one, Addr.add_lit]
  rw [e] at h1
  exact h1
theorem two_free {w w' : World} {b : Nat} {x y : Value} (hb : Below w.heap.size w w') (h0 : w.cell? ⟨b, 0, none⟩ = some x) (h1 : w.cell? ⟨b, 1, none⟩ = some y) (f : ∀ j, w.frozen? ⟨b, j, none⟩ = false) :
    w'.cell? ⟨b, 0, none⟩ = some x ∧ w'.cell? ⟨b, 1, none⟩ = some y ∧ b < w'.heap.size ∧ w'.frozen? ⟨b, 0, none⟩ = false ∧ w'.frozen? ⟨b, 1, none⟩ = false := by
  have hlt := World.block_lt_of_cell? _ _ h0
  exact ⟨kept_cell hb h0, kept_cell hb h1, Nat.lt_of_lt_of_le hlt hb.size, kept_free hb ⟨hlt, f 0⟩, kept_free hb ⟨hlt, f 1⟩⟩
theorem two_cells {w : World} {b : Nat} {x y u0 u1 : Value} (h0 : w.cell? ⟨b, 0, none⟩ = some u0) (h1 : w.cell? ⟨b, 1, none⟩ = some u1) :
    ((w.setCell ⟨b, 0, none⟩ x).setCell ⟨b, 1, none⟩ y).cell? ⟨b, 0, none⟩ = some x ∧ ((w.setCell ⟨b, 0, none⟩ x).setCell ⟨b, 1, none⟩ y).cell? ⟨b, 1, none⟩ = some y := by
  constructor
  · rw [set_off (by decide)]
    exact World.cell?_setCell_same _ _ _ h0
  · exact World.cell?_setCell_same _ _ _ (by rw [set_off (by decide)]; exact h1)
theorem two_below {w0 w : World} {B b : Nat} {x y : Value} (h : Below B w0 w) (hb : B ≤ b) : Below B w0 ((w.setCell ⟨b, 0, none⟩ x).setCell ⟨b, 1, none⟩ y) :=
  (h.setCell (p := ⟨b, 0, none⟩) hb x).setCell (p := ⟨b, 1, none⟩) hb y
theorem logParse_results (tmps : Array Value) (b : Nat) (w : World) {a : Option Addr} {n c : Nat} {m e : Int} (h2 : tmps.getD 2 undef = .pointer (some ⟨b, 0, none⟩)) (h3 : tmps.getD 3 undef = .int .i64 e) (k0 : w.cell? ⟨b, 0, none⟩ = some (.int .i64 m)) (k1 : w.cell? ⟨b, 1, none⟩ = some (.slice a n c)) :
    (results Tryz.f28 tmps).run Tryz.prog w = .ok (.tuple #[.agg #[.int .i64 m, .slice a n c], .int .i64 e]) w := by
  have h2' : tmps[2]?.getD undef = .pointer (some ⟨b, 0, none⟩) := by simpa using h2
  have h3' : tmps[3]?.getD undef = .int .i64 e := by simpa using h3
  simp [results, Tryz.results28, go_sem, h2', h3', k0, k1]
theorem box2 {w : World} {b : Nat} {x y : Value} (h : Box w b #[x, y] 61) : w.cell? ⟨b, 0, none⟩ = some x ∧ w.cell? ⟨b, 1, none⟩ = some y ∧ b < w.heap.size ∧ w.frozen? ⟨b, 0, none⟩ = false ∧ w.frozen? ⟨b, 1, none⟩ = false := ⟨h.cell 0 _ rfl, h.cell 1 _ rfl, h.lt, h.free 0, h.free 1⟩
/-- What a reading of an entry is told to be. -/
def EntTold (w : World) (q : Int × Ent) (e : Ending) (w' : World) : Prop :=
  ∃ db dn dc, e = .returned (.tuple #[.agg #[.int .i64 q.2.1, .slice db dn dc], .int .i64 q.1]) ∧ DeedsIn w' db dn dc q.2.2 ∧ Below w.heap.size w w'

set_option maxHeartbeats 8000000 in
set_option maxRecDepth 100000 in
theorem logParse_calls (l : T) (b : Option Addr) (n c : Nat) (w : World) (hG : Ground w) (hn : n ≤ 1048576) (h : BytesIn w b n c l) :
    Calls Tryz.prog 28 #[.slice b n c] w fun e w' => EntTold w (readE l) e w' := by
  have HN := hid (BytesIn.count h)
  have hc := h.hdr.le
  have hcm := h.hdr.max
  unfold maxLen at hcm
  have HB := hid h
  have HG := hid hG
  clear h hG
  by_cases h3 : n < 3
  · have HQ : Hid (readE l = (8, noEnt)) := by show _ = _; unfold readE; rw [if_pos (by rw [← HN.out]; exact h3)]
    have h3' : (n : Int) < 3 := by omega
    go_enter Tryz.func28, Tryz.ntmps28
    go_wp2
    refine bodyPost_ret (logParse_results _ w.heap.size _ rfl rfl (box_cell w _ _ 0 _ rfl) (box_cell w _ _ 1 _ rfl)) rfl ?_
    exact ⟨_, _, _, by rw [HQ.out]; rfl, by rw [HQ.out]; exact deeds_nil _, grew _ _⟩
  obtain ⟨b1, o1, rfl, hr1⟩ : ∃ b1 o1, b = some ⟨b1, o1, none⟩ ∧ Run w b1 o1 (bytesC l) := by
    rcases HB.out.run with h | h
    · omega
    · exact h
  obtain ⟨k, rfl⟩ : ∃ k, n = k + 1 + 2 := ⟨n - 3, by omega⟩
  have h3' : ¬ (((k + 1 + 2 : Nat) : Int) < 3) := by omega
  clear hr1
  go_enter Tryz.func28, Tryz.ntmps28
  go_wp2
  go_quiet (fail)
  have HBA := hid (below_drewN (grew w (.cells #[.int .i64 0, .slice none 0 0] 61)) nq)
  have hbl : w.heap.size < ((w.alloc (.cells #[.int .i64 0, .slice none 0 0] 61)).drewN nq).heap.size := by
    show _ < (w.alloc _).heap.size
    rw [World.size_alloc]; omega
  have HX := hid (And.intro (show ((w.alloc (.cells #[.int .i64 0, .slice none 0 0] 61)).drewN nq).cell? ⟨w.heap.size, 0, none⟩ = some (.int .i64 0) from box_cell w _ _ 0 _ rfl) (And.intro (show ((w.alloc (.cells #[.int .i64 0, .slice none 0 0] 61)).drewN nq).cell? ⟨w.heap.size, 1, none⟩ = some (.slice none 0 0) from box_cell w _ _ 1 _ rfl) (fun j => show ((w.alloc (.cells #[.int .i64 0, .slice none 0 0] 61)).drewN nq).frozen? ⟨w.heap.size, j, none⟩ = false from World.frozen?_alloc_new _ _ _ _)))
  have HBY := hid (HB.out.below (by decide) HBA.out)
  have HGA := hid (HG.out.below HBA.out)
  clear HB HG
  generalize (w.alloc (.cells #[.int .i64 0, .slice none 0 0] 61)).drewN nq = A at *
  have hlen : l.length = k + 1 + 2 := HN.out.symm
  have b0 : BytesIn A (some ⟨b1, o1, none⟩) (k + 1) c (l.take (k + 1)) := bytes_cut (i := 0) (j := k + 1) HBY.out (Nat.zero_le _) (by omega) (by omega)
  have b2 : BytesIn A (some ⟨b1, o1 + 1, none⟩) k (c - 1) ((l.take (k + 1)).drop 1) := bytes_cut (i := 1) (j := k + 1) HBY.out (by omega) (by omega) (by omega)
  have b3 : BytesIn A (some ⟨b1, o1 + (k + 1), none⟩) 2 (c - (k + 1)) (l.drop (k + 1)) := by
    have := bytes_cut (i := k + 1) (j := k + 1 + 2) HBY.out (by omega) (by omega) (by omega)
    rw [List.take_of_length_le (by omega), Nat.add_sub_cancel_left] at this
    exact this
  have hconv := bytes_text b2 63 9 5 Tryz.underlying63 Tryz.underlying5 Tryz.underlying9
  have hx0 : A.cell? ⟨b1, o1, none⟩ = some (.int .u8 ((l.getD 0 0).toNat : Int)) := by
    rcases HBY.out.run with h | ⟨b', o', e, hr⟩
    · omega
    · cases e
      exact hr 0 _ (bytesC_at (by omega))
  have HX0 := hid hx0
  have HSB := hid (sumBytes_calls _ _ _ _ A b0)
  have HB3 := hid b3
  have e2 : l.length - 2 = k + 1 := by omega
  have HSO : Hid (l.drop (k + 1) = sumB (sumT (l.take (k + 1))) ↔ sumOk l = true) := by
    have := sum_bytes (b := l) (by omega)
    rw [e2] at this
    exact this
  have HEN : Hid (Ended ((l.take (k + 1)).drop 1) ↔ ¬ (3 < l.length ∧ l.getD (l.length - 3) 0 ≠ 10)) := by
    have := ended_iff (b := l) (by omega)
    rw [e2] at this
    exact this
  have hll : ((l.take (k + 1)).drop 1).length ≤ 1048576 := by rw [List.length_drop, List.length_take]; omega
  have HRE : Hid (readE l = if sumOk l = false then (2, noEnt) else if 3 < l.length ∧ l.getD (l.length - 3) 0 ≠ 10 then (2, noEnt) else
      if (readLines (linesT [] ((l.take (k + 1)).drop 1))).1 = 0 then (if wrongE ((l.getD 0 0).toNat, (readLines (linesT [] ((l.take (k + 1)).drop 1))).2) = 0 then (0, ((l.getD 0 0).toNat, (readLines (linesT [] ((l.take (k + 1)).drop 1))).2)) else (wrongE ((l.getD 0 0).toNat, (readLines (linesT [] ((l.take (k + 1)).drop 1))).2), noEnt)) else ((readLines (linesT [] ((l.take (k + 1)).drop 1))).1, noEnt)) := by
    show _ = _
    unfold readE
    rw [if_neg (by omega), e2]
  clear b0 b2 b3 e2 hx0
  have HKX := hid (keyT_ofT ((l.take (k + 1)).drop 1))
  have hxs : (ofT ((l.take (k + 1)).drop 1)).size ≤ 1048576 := by rw [ofT_size]; exact hll
  generalize (l.take (k + 1)).drop 1 = lines at *
  generalize ofT lines = X at *
  generalize sumB (sumT (l.take (k + 1))) = SB at *
  generalize l.drop (k + 1) = SE at *
  generalize sumOk l = so at *
  have hx8 := (l.getD 0 0).toNat_lt
  generalize (l.getD 0 0).toNat = x at *
  go_wp2_with fail
  refine HSB.out.mono ?_
  rintro e w1 ⟨rfl, hs1, hlt1, hb1⟩
  have HEQ := hid (equalB_calls SE SB _ _ _ _ _ _ w1 (HB3.out.below (by decide) hb1) hs1)
  have HB1 := hid hb1
  clear hs1 hlt1 hb1 HSB HB3 hconv
  go_wp2_with fail
  refine HEQ.out.mono ?_
  rintro e w2 ⟨⟨bq, rfl, hbq⟩, rfl⟩
  have HBQ := hid (hbq.trans HSO.out)
  clear hbq HSO HEQ
  have HW2 := hid (below_deep HBA.out HB1.out)
  cases bq with
  | false =>
    have HQ : Hid (readE l = (2, noEnt)) := by
      show _ = _
      have : so = false := by
        cases so with
        | false => rfl
        | true => exact absurd (HBQ.out.2 rfl) (by simp)
      rw [HRE.out, if_pos this]
    obtain ⟨x0, x1, hxl, f0, f1⟩ := two_free HB1.out HX.out.1 HX.out.2.1 HX.out.2.2
    have HC := hid (two_cells (x := .int .i64 0) (y := .slice none 0 0) x0 x1)
    clear HRE
    go_wp2
    refine bodyPost_ret (logParse_results _ w.heap.size _ rfl rfl HC.out.1 HC.out.2) rfl ?_
    exact ⟨_, _, _, by rw [HQ.out]; rfl, by rw [HQ.out]; exact deeds_nil _, two_below HW2.out (Nat.le_refl _)⟩
  | true =>
    have hso : so = true := HBQ.out.1 rfl
    have HEC := hid (ends_calls X w2 (by unfold maxLen; omega))
    rw [HKX.out] at HEC
    go_wp2_with fail
    refine HEC.out.mono ?_
    rintro e w3 ⟨⟨be, rfl, hbe⟩, rfl⟩
    have HBE := hid (hbe.trans HEN.out)
    have HBL := hid hbe
    clear hbe HEN HEC
    cases be with
    | false =>
      have HQ : Hid (readE l = (2, noEnt)) := by
        show _ = _
        have : 3 < l.length ∧ l.getD (l.length - 3) 0 ≠ 10 := Classical.not_not.1 (fun h => absurd (HBE.out.2 h) (by simp))
        rw [HRE.out, if_neg (by rw [hso]; simp), if_pos this]
      obtain ⟨x0, x1, hxl, f0, f1⟩ := two_free HB1.out HX.out.1 HX.out.2.1 HX.out.2.2
      have HC := hid (two_cells (x := .int .i64 0) (y := .slice none 0 0) x0 x1)
      clear HRE
      go_wp2
      refine bodyPost_ret (logParse_results _ w.heap.size _ rfl rfl HC.out.1 HC.out.2) rfl ?_
      exact ⟨_, _, _, by rw [HQ.out]; rfl, by rw [HQ.out]; exact deeds_nil _, two_below HW2.out (Nat.le_refl _)⟩
    | true =>
      have HRE2 : Hid (readE l = if (readLines (linesT [] lines)).1 = 0 then (if wrongE ((x : Int), (readLines (linesT [] lines)).2) = 0 then (0, ((x : Int), (readLines (linesT [] lines)).2)) else (wrongE ((x : Int), (readLines (linesT [] lines)).2), noEnt)) else ((readLines (linesT [] lines)).1, noEnt)) := by
        show _ = _
        rw [HRE.out, if_neg (by rw [hso]; simp), if_neg (HBE.out.1 rfl)]
      have HPL := hid (parseLines_calls X w3 (HGA.out.below HB1.out) hxs (by rw [HKX.out]; exact HBL.out.1 rfl))
      rw [HKX.out] at HPL
      clear HRE HBE HBL HBQ hso
      generalize readLines (linesT [] lines) = r at *
      go_wp2_with fail
      refine HPL.out.mono ?_
      rintro e w4 ⟨db, dn, dc, rfl, hd, hb4⟩
      have HB4 := hid (below_deep HB1.out hb4)
      have hx4 := kept_cell HB4.out HX0.out
      have HDN := hid hd
      have hl4 := HB4.out.size
      have hb1l : b1 < w4.heap.size := Nat.lt_of_lt_of_le (by simpa using World.block_lt_of_cell? _ _ HX0.out) hl4
      have HG4 := hid (grew w4 (.cells #[.int .i64 (x : Int), .slice db dn dc] 61))
      have y0 := box_cell w4 #[.int .i64 (x : Int), .slice db dn dc] 61 0 _ rfl
      have y1 := box_cell w4 #[.int .i64 (x : Int), .slice db dn dc] 61 1 _ rfl
      have HY := hid (And.intro y0 y1)
      have HBW := hid (below_deep HW2.out (hb4.trans (HG4.out.mono hb4.size)))
      clear hd hb4 HPL
      obtain ⟨q, D⟩ := r
      simp only at HRE2 HDN ⊢
      go_upto_region 9 with fail
      have HD5 := hid (HDN.out.below HG4.out)
      have HB5 := hid (below_deep HB4.out HG4.out)
      have hl5 : w4.heap.size < (w4.alloc (.cells #[.int .i64 (x : Int), .slice db dn dc] 61)).heap.size := by rw [World.size_alloc]; omega
      have hbn : w.heap.size ≠ w4.heap.size := by omega
      clear y0 y1 HG4 HDN hx4 hb1l
      generalize w4.alloc (.cells #[.int .i64 (x : Int), .slice db dn dc] 61) = A5 at *
      have hbs : w.heap.size < w3.heap.size := Nat.lt_of_lt_of_le hbl HB1.out.size
      generalize w4.heap.size = b5 at *
      by_cases hq : q = 0
      · subst hq
        have HRE3 : Hid (readE l = if wrongE ((x : Int), D) = 0 then (0, ((x : Int), D)) else (wrongE ((x : Int), D), noEnt)) := by show _ = _; rw [HRE2.out, if_pos rfl]
        have HLW := hid (logWrong_calls ((x : Int), D) (.agg #[.int .i64 (x : Int), .slice db dn dc]) A5 ⟨db, dn, dc, rfl, HD5.out.deeds⟩)
        have y0 := HY.out.1
        have y1 := HY.out.2
        clear HRE2
        generalize wrongE ((x : Int), D) = p at *
        go_wp2_with fail
        refine HLW.out.mono ?_
        rintro e w6 ⟨rfl, hb6⟩
        have HB6 := hid (below_deep HB5.out hb6)
        have HBW6 := hid (below_deep HBW.out hb6)
        have HY6 := hid (And.intro (kept_cell hb6 HY.out.1) (kept_cell hb6 HY.out.2))
        have hl6 := Nat.lt_of_lt_of_le hl5 hb6.size
        have HD6 := hid (HD5.out.below hb6)
        clear hb6 HLW y0 y1 HY HD5
        obtain ⟨x0, x1, hxl, f0, f1⟩ := two_free HB6.out HX.out.1 HX.out.2.1 HX.out.2.2
        by_cases hp : p = 0
        · subst hp
          have HQ : Hid (readE l = (0, ((x : Int), D))) := by show _ = _; rw [HRE3.out, if_pos rfl]
          have HC := hid (two_cells (x := .int .i64 (x : Int)) (y := .slice db dn dc) x0 x1)
          have y0 := HY6.out.1
          have y1 := HY6.out.2
          clear HRE3
          go_wp2
          refine bodyPost_ret (logParse_results _ w.heap.size _ rfl rfl HC.out.1 HC.out.2) rfl ?_
          exact ⟨_, _, _, by rw [HQ.out], by rw [HQ.out]; exact ((HD6.out.set (p := ⟨w.heap.size, 0, none⟩) hbs _).set (p := ⟨w.heap.size, 1, none⟩) hbs _).deeds, two_below HBW6.out (Nat.le_refl _)⟩
        · have HQ : Hid (readE l = (p, noEnt)) := by show _ = _; rw [HRE3.out, if_neg hp]
          have t2 := ne_true hp
          have HC := hid (two_cells (x := .int .i64 0) (y := .slice none 0 0) x0 x1)
          clear HRE3
          go_wp2
          refine bodyPost_ret (logParse_results _ w.heap.size _ rfl rfl HC.out.1 HC.out.2) rfl ?_
          exact ⟨_, _, _, by rw [HQ.out]; rfl, by rw [HQ.out]; exact deeds_nil _, two_below HBW6.out (Nat.le_refl _)⟩
      · have HQ : Hid (readE l = (q, noEnt)) := by show _ = _; rw [HRE2.out, if_neg hq]
        have t1 : (q == 0) = false := by simpa using hq
        have t2 := ne_true hq
        obtain ⟨x0, x1, hxl, f0, f1⟩ := two_free HB5.out HX.out.1 HX.out.2.1 HX.out.2.2
        have HC := hid (two_cells (x := .int .i64 0) (y := .slice none 0 0) x0 x1)
        clear HRE2
        go_wp2
        refine bodyPost_ret (logParse_results _ w.heap.size _ rfl rfl HC.out.1 HC.out.2) rfl ?_
        exact ⟨_, _, _, by rw [HQ.out]; rfl, by rw [HQ.out]; exact deeds_nil _, two_below HBW.out (Nat.le_refl _)⟩
end Go.Proofs.YthmkgfdglkdjmadGreatDoor
