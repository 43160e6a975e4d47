/-
  The document's own Seen and Finish of engines, walked.
  Wrong of the program tells the first thing that is wrong with any rows.
  The closed fact that the statements of chapter 1 ask first is so.
  SameRows of the document's answer tells whether two lists of rows are one.
  The walk of the statement RowsApart: the call returns true and changes nothing that was there.
  The walk of the statement RowsTells: the call returns true and changes nothing that was there.
-/
import Derived.Test.YtdnafpenljdinadDoorTidyDo
import Derived.Test.YtdnafpenljdinadDoorRunSet
import Derived.Test.YtdnafpenljdinadDoorRefGoE
import Derived.Test.YtdnafpenljdinadDoorRefBefore
import Derived.Deep.LoopGhost
import Derived.Test.YtdnafpenljdinadDoorAround
import Derived.BigQuiet
import Derived.Deep.QuietTactic
import Derived.Test.YtdnafpenljdinadDoorRefPut
import Derived.Test.YtdnafpenljdinadDoorChecked
import Derived.WalkKit
import Derived.WalkSpells
import Derived.WalkLawsBesides
import Derived.Below
import Derived.LoopTactic
import Derived.Outline
import Derived.Test.YtdnafpenljdinadDoorRef
namespace Go.Proofs.YtdnafpenljdinadDoor
open Go.RowKit

set_option maxHeartbeats 4000000 in
set_option maxRecDepth 100000 in
theorem refSeen_calls {r0 : List Row} {D : List Deed3} {m : Nat} {dq : Nat → Bool} {bq : ByteArray → Int} {e : Eng} (G : Good r0 D m dq bq e) (hD : D.length ≤ 1954687338211) (at_ : Int) (v : Value) (w : World) (hv : EngIn w v e) :
    Calls Tryd.prog 16 #[v, .int .i64 at_] w fun x w' => SeenTold w w' e at_ x := by
  obtain ⟨cb, cn, cc, db, dn, dc, sb, sn, sc, eb, en, ec, rfl, hl⟩ := hv
  have hle := G.le
  have hz0 : 0 ≤ e.base := by rw [G.base]; omega
  have hz1 : e.base ≤ 1954687338211 := by rw [G.base]; omega
  have HDL := hid hl.de.len
  have hdn : dn ≤ 1954687338211 := by rw [hl.de.len, G.len]; omega
  have HFIT := hid (G.fit hD)
  have HBX := hid (Box.new w #[.slice cb cn cc, .slice db dn dc, .slice sb sn sc, .slice eb en ec, .int .i64 e.base] 33)
  have HB0 := hid (grew w (.cells #[.slice cb cn cc, .slice db dn dc, .slice sb sn sc, .slice eb en ec, .int .i64 e.base] 33))
  have HL := hid (hl.below HB0.out)
  clear G hD hl hle
  go_enter Tryd.func16, Tryd.ntmps16
  go_upto_region 1 with fail
  generalize w.alloc (.cells #[.slice cb cn cc, .slice db dn dc, .slice sb sn sc, .slice eb en ec, .int .i64 e.base] 33) = A at *
  obtain ⟨x0, x1, x2, x3, x4⟩ := HBX.out.cells5
  have hxl : w.heap.size < A.heap.size := HBX.out.lt
  by_cases hneg : at_ < 0
  · have HT : Hid (seenTo e at_ = ([], 6)) := by show _ = _; unfold seenTo; rw [if_pos (.inl hneg)]
    have t1 : decide (at_ < 0) = true := by simpa using hneg
    clear hneg
    go_wp2
    go_ret2
    exact seen_told HT.out (nil_holds _) HB0.out
  obtain ⟨k, rfl⟩ : ∃ k : Nat, at_ = (k : Int) := ⟨at_.toNat, by omega⟩
  have t1 : decide ((k : Int) < 0) = false := by simp
  by_cases hbig : dn < k
  · have HT : Hid (seenTo e k = ([], 6)) := by show _ = _; unfold seenTo; rw [if_pos (.inr (by rw [← HDL.out]; omega))]
    have t2 : decide ((dn : Int) < (k : Int)) = true := by simp; omega
    have t3 : decide (dn < k) = true := by simp; omega
    clear hneg
    go_wp2
    go_ret2
    exact seen_told HT.out (nil_holds _) HB0.out
  have t2 : decide ((dn : Int) < (k : Int)) = false := by simp; omega
  have t3 : decide (dn < k) = false := by simp; omega
  have hsum : IntKind.i64.wrap (e.base + (k : Int)) = e.base + k := by rw [IntKind.wrap_i64]; omega
  have HST : Hid (seenTo e k = match rowsC e.chains (e.base + k) with | none => ([], 10) | some r => (r, 0)) := by
    show _ = _
    unfold seenTo
    rw [if_neg (by rw [← HDL.out]; omega)]
    all_goals (cases rowsC e.chains (e.base + (k : Int)) <;> rfl)
  have PRA := hid (refRowsAt_calls e.chains cb cn cc (e.base + k) A HFIT.out HL.out.ch)
  clear hneg hbig
  cases hrc : rowsC e.chains (e.base + (k : Int)) with
  | none =>
    rw [hrc] at HST
    unfold RowsTold at PRA
    rw [hrc] at PRA
    clear hrc
    go_wp2_with fail
    refine PRA.out.mono ?_
    rintro x w1 ⟨b9, n9, c9, ok, rfl, rfl, h9, hb9⟩
    have HB1 := hid (below_deep HB0.out hb9)
    clear h9 hb9 PRA
    simp only [Option.isSome_none]
    go_wp2
    go_ret2
    exact seen_told HST.out (nil_holds _) HB1.out
  | some r =>
    rw [hrc] at HST
    unfold RowsTold at PRA
    rw [hrc] at PRA
    clear hrc
    go_wp2_with fail
    refine PRA.out.mono ?_
    rintro x w1 ⟨b9, n9, c9, ok, rfl, rfl, h9, hb9⟩
    have HB1 := hid (below_deep HB0.out hb9)
    have H9 : Hid (Holds w1 b9 n9 c9 r) := h9
    clear h9 hb9 PRA
    simp only [Option.isSome_some]
    go_wp2
    go_ret2
    exact seen_told HST.out H9.out HB1.out

theorem refFin_results (tmps : Array Value) (b : Nat) (w : World) {a0 a1 a2 a3 : Option Addr} {n0 n1 n2 n3 c0 c1 c2 c3 : Nat} {z : Int} (h : tmps.getD 2 undef = .pointer (some ⟨b, 0, none⟩)) (hb : Box w b #[.slice a0 n0 c0, .slice a1 n1 c1, .slice a2 n2 c2, .slice a3 n3 c3, .int .i64 z] 33) :
    (results Tryd.f12 tmps).run Tryd.prog w = .ok (.agg #[.slice a0 n0 c0, .slice a1 n1 c1, .slice a2 n2 c2, .slice a3 n3 c3, .int .i64 z]) w := by
  have h' : tmps[2]?.getD undef = .pointer (some ⟨b, 0, none⟩) := by simpa using h
  obtain ⟨k0, k1, k2, k3, k4⟩ := hb.cells5
  simp [results, Tryd.results12, go_sem, h', k0, k1, k2, k3, k4]
/-- Go of one that is ready. -/
theorem goTo_at {e : Eng} {p : Nat} (h : p ∈ readyE e) : goTo e p = (goE e p, 0) := by
  have h1 := ready_lt h
  have h2 := ready_needs h
  have h3 := (List.mem_filter.1 h).2
  simp only [Bool.and_eq_true, decide_eq_true_eq] at h3
  unfold goTo
  rw [if_neg (by omega), Int.toNat_natCast, h3.1, if_neg (by decide), if_neg (by rw [h2]; simp)]

set_option maxHeartbeats 8000000 in
set_option maxRecDepth 100000 in
theorem refFin_calls {r0 : List Row} {D : List Deed3} {m : Nat} {dq : Nat → Bool} {bq : ByteArray → Int} {e : Eng} (G : Good r0 D m dq bq e) (hD : D.length ≤ 1954687338211) (v : Value) (w : World) (hv : EngIn w v e) :
    Calls Tryd.prog 12 #[v] w fun x w' => ∃ (y : Eng) (dn : Nat → Bool), Good r0 D m dn bq y ∧ (∀ i, m ≤ i → i < D.length → dn i = true) ∧ EngTold w w' y x := by
  obtain ⟨cb, cn, cc, db, dn, dc, sb, sn, sc, eb, en, ec, rfl, hl⟩ := hv
  have HG := hid G
  have HDM := hid hD
  have HBX := hid (Box.new w #[.slice cb cn cc, .slice db dn dc, .slice sb sn sc, .slice eb en ec, .int .i64 e.base] 33)
  have HB0 := hid (grew w (.cells #[.slice cb cn cc, .slice db dn dc, .slice sb sn sc, .slice eb en ec, .int .i64 e.base] 33))
  have HBZ := hid (Box.new (w.alloc (.cells #[.slice cb cn cc, .slice db dn dc, .slice sb sn sc, .slice eb en ec, .int .i64 e.base] 33)) #[.slice none 0 0, .slice none 0 0, .slice none 0 0, .slice none 0 0, .int .i64 0] 33)
  have HB1 := hid (grew (w.alloc (.cells #[.slice cb cn cc, .slice db dn dc, .slice sb sn sc, .slice eb en ec, .int .i64 e.base] 33)) (.cells #[.slice none 0 0, .slice none 0 0, .slice none 0 0, .slice none 0 0, .int .i64 0] 33))
  rw [World.size_alloc] at HBZ
  have HX := hid (HBX.out.below HB1.out)
  have HBW := hid (below_deep HB0.out HB1.out)
  have HL := hid (hl.below HBW.out)
  clear G hD hl HBX HB0 HB1
  go_enter Tryd.func12, Tryd.ntmps12
  go_upto_region 1 with fail
  generalize (w.alloc (.cells #[.slice cb cn cc, .slice db dn dc, .slice sb sn sc, .slice eb en ec, .int .i64 e.base] 33)).alloc (.cells #[.slice none 0 0, .slice none 0 0, .slice none 0 0, .slice none 0 0, .int .i64 0] 33) = A at *
  go_loopg [3] (waitN dq m (D.length - m)) (fun k _ wr => ∃ (ej : Eng) (dj : Nat → Bool) (cb3 : Option Addr) (cn3 cc3 : Nat) (db3 : Option Addr) (dn3 dc3 : Nat) (sb3 : Option Addr) (sn3 sc3 : Nat) (eb3 : Option Addr) (en3 ec3 : Nat), Hid (Good r0 D m dj bq ej) ∧ Hid (waitN dj m (D.length - m) ≤ k) ∧ Hid (Box wr w.heap.size #[.slice cb3 cn3 cc3, .slice db3 dn3 dc3, .slice sb3 sn3 sc3, .slice eb3 en3 ec3, .int .i64 ej.base] 33) ∧ Hid (EngLies wr cb3 cn3 cc3 db3 dn3 dc3 sb3 sn3 sc3 eb3 en3 ec3 ej) ∧ Hid (Box wr (w.heap.size + 1) #[.slice none 0 0, .slice none 0 0, .slice none 0 0, .slice none 0 0, .int .i64 0] 33) ∧ Hid (Below w.heap.size w wr))
  case atStart => exact ⟨e, dq, cb, cn, cc, db, dn, dc, sb, sn, sc, eb, en, ec, HG, Nat.le_refl _, HX, HL, HBZ, HBW⟩
  case round =>
    obtain ⟨ej, dj, cb3, cn3, cc3, db3, dn3, dc3, sb3, sn3, sc3, eb3, en3, ec3, HGJ, HWK, HXR, HLR, HZR, HBR⟩ := hrel
    obtain ⟨x0, x1, x2, x3, x4⟩ := HXR.out.cells5
    have hxl : w.heap.size < wr.heap.size := HXR.out.lt
    have PR := hid (refReady_calls HGJ.out HDM.out _ wr ⟨_, _, _, _, _, _, _, _, _, _, _, _, rfl, HLR.out⟩)
    go_wp2_with fail
    refine PR.out.mono ?_
    rintro x w4 ⟨rb, rn, rc, rfl, h4, hb4⟩
    have HR4 := hid h4
    have HRN : Hid (rn = (readyE ej).length) := by
      have := Ints.count h4
      rw [ints, List.length_map] at this
      exact this
    have hrm := Nat.le_trans h4.hdr.le h4.hdr.max
    unfold maxLen at hrm
    have HX4 := hid (HXR.out.below hb4)
    have HL4 := hid (HLR.out.below hb4)
    have HZ4 := hid (HZR.out.below hb4)
    have HB4 := hid (below_deep HBR.out hb4)
    clear h4 hb4 PR x0 x1 x2 x3 x4 hxl HXR HLR HZR HBR
    by_cases h0 : rn = 0
    · subst h0
      have HNO : Hid (readyE ej = []) := List.eq_nil_of_length_eq_zero HRN.out.symm
      obtain ⟨x0, x1, x2, x3, x4⟩ := HX4.out.cells5
      obtain ⟨z0, z1, z2, z3, z4⟩ := HZ4.out.cells5
      obtain ⟨f0, f1, f2, f3, f4⟩ := HZ4.out.free5
      have hxl : w.heap.size < w4.heap.size := HX4.out.lt
      have hzl : w.heap.size + 1 < w4.heap.size := HZ4.out.lt
      have HBF := hid (put5_box HZ4.out (.slice cb3 cn3 cc3) (.slice db3 dn3 dc3) (.slice sb3 sn3 sc3) (.slice eb3 en3 ec3) (.int .i64 ej.base))
      have HEF := hid (HL4.out.put HZ4.out (put5_off w4 (w.heap.size + 1) (.slice cb3 cn3 cc3) (.slice db3 dn3 dc3) (.slice sb3 sn3 sc3) (.slice eb3 en3 ec3) (.int .i64 ej.base)))
      have HBL := hid (put5_below HB4.out (Nat.le_succ _) (.slice cb3 cn3 cc3) (.slice db3 dn3 dc3) (.slice sb3 sn3 sc3) (.slice eb3 en3 ec3) (.int .i64 ej.base))
      unfold put5 at HBF HEF HBL
      go_wp2
      (try simp only [Exit.inBlock, Exit.then])
      refine bodyPost_ret (refFin_results _ (w.heap.size + 1) _ rfl HBF.out) rfl ?_
      exact ⟨ej, dj, HGJ.out, none_ready HGJ.out HNO.out, _, rfl, ⟨_, _, _, _, _, _, _, _, _, _, _, _, rfl, HEF.out⟩, HBL.out⟩
    · have hr0 : 0 < rn := by omega
      have hri : (0 : Int) < (rn : Int) := by omega
      obtain ⟨b1, o1, rfl, hr⟩ : ∃ b1 o1, rb = some ⟨b1, o1, none⟩ ∧ Run w4 b1 o1 (intsC (ints (readyE ej))) := by
        rcases HR4.out.run with h | h
        · omega
        · exact h
      have hj' : 0 < (readyE ej).length := by rw [← HRN.out]; exact hr0
      have HRP : Hid ((readyE ej).getD 0 0 ∈ readyE ej) := by show _ ∈ _; simp [List.getD, hj']
      have k0 := hr 0 _ (intsC_at (by rw [ints, List.length_map]; exact hj'))
      rw [Nat.add_zero, show (ints (readyE ej)).getD 0 0 = ((readyE ej).getD 0 0 : Int) from by simp [ints, List.getD, hj']] at k0
      have hb1 : b1 < w4.heap.size := by simpa using World.block_lt_of_cell? _ _ k0
      generalize (readyE ej).getD 0 0 = p at *
      have HGT := hid (goTo_at HRP.out)
      have PG := hid (fun W hv => refGoE_calls HGJ.out HDM.out (p : Int) (.agg #[.slice cb3 cn3 cc3, .slice db3 dn3 dc3, .slice sb3 sn3 sc3, .slice eb3 en3 ec3, .int .i64 ej.base]) W hv)
      unfold GoTold at PG
      rw [HGT.out] at PG
      obtain ⟨x0, x1, x2, x3, x4⟩ := HX4.out.cells5
      have hxl : w.heap.size < w4.heap.size := HX4.out.lt
      have HRA := hid (ready_at HGJ.out HRP.out)
      have HGN := hid (HGJ.out.go HRA.out.1 (ready_needs HRP.out))
      have HWG := hid (wait_go (dn := dj) (m := m) (n := D.length - m) (p := p) (by have := HRA.out.1; omega) HRA.out.2)
      have HD4 := hid (step_drew (Below.refl w4.heap.size w4))
      clear hr hj'
      go_wp2
      go_region_with ((go_at_call 20; refine (PG.out _ ⟨_, _, _, _, _, _, _, _, _, _, _, _, rfl, HL4.out.below HD4.out⟩).mono ?_; rintro _ w5 ⟨v5, rfl, hv5, hb5⟩; obtain ⟨cb5, cn5, cc5, db5, dn5, dc5, sb5, sn5, sc5, eb5, en5, ec5, rfl, hl5⟩ := hv5; have HX5 := hid ((HX4.out.below HD4.out).below hb5); obtain ⟨g0, g1, g2, g3, g4⟩ := HX5.out.cells5; obtain ⟨f0, f1, f2, f3, f4⟩ := HX5.out.free5; have hxl5 : w.heap.size < w5.heap.size := HX5.out.lt))
      all_goals
        have HZ5 := hid ((HZ4.out.below HD4.out).below hb5)
        have HXF := hid (put5_box HX5.out (.slice cb5 cn5 cc5) (.slice db5 dn5 dc5) (.slice sb5 sn5 sc5) (.slice eb5 en5 ec5) (.int .i64 (goE ej p).base))
        have HLF := hid (hl5.put HX5.out (put5_off w5 w.heap.size (.slice cb5 cn5 cc5) (.slice db5 dn5 dc5) (.slice sb5 sn5 sc5) (.slice eb5 en5 ec5) (.int .i64 (goE ej p).base)))
        have HZF := hid (put5_far (b := w.heap.size) HZ5.out (Nat.succ_ne_self _) (.slice cb5 cn5 cc5) (.slice db5 dn5 dc5) (.slice sb5 sn5 sc5) (.slice eb5 en5 ec5) (.int .i64 (goE ej p).base))
        have HBF := hid (put5_below (below_deep (below_deep HB4.out HD4.out) hb5) (Nat.le_refl _) (.slice cb5 cn5 cc5) (.slice db5 dn5 dc5) (.slice sb5 sn5 sc5) (.slice eb5 en5 ec5) (.int .i64 (goE ej p).base))
        unfold put5 at HXF HLF HZF HBF
        clear hl5 hb5 PG x0 x1 x2 x3 x4 hxl k0 hb1 HX4 HL4 HZ4 HB4 HX5 HZ5
        go_wp2
        go_roundg (waitN (doneNow dj (m + p)) m (D.length - m))
        case rel => exact ⟨goE ej p, _, cb5, cn5, cc5, db5, dn5, dc5, sb5, sn5, sc5, eb5, en5, ec5, HGN, Nat.le_refl _, HXF, HLF, HZF, HBF⟩
        case measure => have h1 := HWG.out; have h2 := HWK.out; omega
end Go.Proofs.YtdnafpenljdinadDoor

namespace Go.Proofs.YtdnafpenljdinadDoor
open Go.RowKit

end Go.Proofs.YtdnafpenljdinadDoor

namespace Go.Proofs.YtdnafpenljdinadDoor
open Go.RowKit

/-- The keys a, b and abc. -/
def kA : ByteArray := ⟨#[97]⟩
def kB : ByteArray := ⟨#[98]⟩
def kC : ByteArray := ⟨#[97, 98, 99]⟩
/-- The rows that are made. -/
def rAB : List Row := [(kA, 1), (kB, 2)]

theorem less_ab : less kA kB = true := by
  rw [less_def, ByteArray.toList_eq, ByteArray.toList_eq]; decide
theorem less_ba : less kB kA = false := less_asymm less_ab
theorem put_b : ins kB 2 [] = [(kB, 2)] := rfl
theorem put_ab : ins kA 1 [(kB, 2)] = rAB := by simp [ins, less_ab, less_ba, rAB]
theorem srt_ab : Srt rAB := by simp [Srt, rAB, less_ab]
theorem drop_ab : del kA rAB = [(kB, 2)] := by simp [del, rAB, less_irrefl]
theorem num_ab : num kB rAB = 2 := by simp [num, rAB, less_ab, less_irrefl]
theorem isAt_ab : isAt kB rAB = true := by simp [isAt, rAB, less_ab, less_irrefl]
theorem key_a : keyB kA = true := by decide
theorem key_b : keyB kB = true := by decide
theorem key_c : keyB kC = true := by decide
theorem wrong_ab : wrong rAB = 0 := by
  refine right_wrong ⟨srt_ab, fun x hx => ?_, fun x hx => ?_, fun x hx => ?_⟩ <;> (simp [rAB] at hx; rcases hx with rfl | rfl <;> first | exact key_a | exact key_b | decide)
theorem small_ab : Small rAB := fun x hx => by
  simp [rAB] at hx; rcases hx with rfl | rfl <;> decide

end Go.Proofs.YtdnafpenljdinadDoor

namespace Go.Proofs.YtdnafpenljdinadDoor
open Go.RowKit

set_option maxHeartbeats 400000 in
theorem same_calls (l : List Row) (ba bb : Option Addr) (ca cb : Nat) (w : World) (hl : l.length ≤ maxLen) (ha : Seg w ba l) (hb : Seg w bb l) :
    Calls Tryd.prog 14 #[.slice ba l.length ca, .slice bb l.length cb] w fun e w' => e = .returned (.bool true) ∧ Below w.heap.size w w' := by
  unfold maxLen at hl
  by_cases h0 : l = []
  · subst h0
    go_enter Tryd.func14, Tryd.ntmps14
    go_wp2
    go_loop [13] (fun i => i = .int .i64 0) (fun _ => 0)
    case atStart => rfl
    case round =>
      obtain rfl := hrel
      go_wp2
      go_ret
      exact ⟨rfl, Below.refl _ _⟩
  rcases ha with h | ⟨b1, o1, rfl, h1⟩
  · exact absurd h h0
  rcases hb with h | ⟨b2, o2, rfl, h2⟩
  · exact absurd h h0
  clear h0
  obtain ⟨n, hn⟩ : ∃ n, n = l.length := ⟨_, rfl⟩
  rw [← hn] at hl ⊢
  have HN : Hid (n = l.length) := hn
  clear hn
  have H1 : Hid (Cells w b1 o1 l) := h1
  have H2 : Hid (Cells w b2 o2 l) := h2
  clear h1 h2
  go_enter Tryd.func14, Tryd.ntmps14
  go_wp2
  go_loopw [13] (fun i wr => ∃ k : Nat, k ≤ n ∧ i = .int .i64 k ∧ ∃ q, wr = w.drewN q) (fun i _ => n - (intOf i).toNat)
  case atStart => exact ⟨0, Nat.zero_le _, rfl, 0, rfl⟩
  case round =>
    obtain ⟨k, hk, rfl, q, rfl⟩ := hrel
    by_cases hlt : k < n
    · obtain ⟨c1, d1⟩ := H1.out k (by rw [← HN.out]; exact hlt)
      obtain ⟨c2, d2⟩ := H2.out k (by rw [← HN.out]; exact hlt)
      generalize (l.getD k default).1 = kk at *
      generalize (l.getD k default).2 = nn at *
      have hi : (k : Int) < (n : Int) := by omega
      go_wp2
      go_quiet (fail)
      go_wp2
      go_roundw
      case rel => exact ⟨k + 1, by omega, by go_num, _, rfl⟩
      case measure => simp [intOf]; omega
    · go_wp2
      go_ret
      exact ⟨rfl, below_drewN (Below.refl _ _) q⟩
end Go.Proofs.YtdnafpenljdinadDoor

namespace Go.Proofs.YtdnafpenljdinadDoor
open Go.RowKit

theorem same_holds (l : List Row) (ba bb : Option Addr) (na nb ca cb : Nat) (w : World) (ha : Holds w ba na ca l) (hb : Holds w bb nb cb l) :
    Calls Tryd.prog 14 #[.slice ba na ca, .slice bb nb cb] w fun e w' => e = .returned (.bool true) ∧ Below w.heap.size w w' := by
  have h1 := ha.len
  have h2 := hb.len
  subst h1 h2
  exact same_calls l ba bb ca cb w (Nat.le_trans ha.hdr.le ha.hdr.max) ha.seg hb.seg

theorem ins_bound {k : ByteArray} {m : Int} {l : List Row} {n n' : Nat} (h : n = l.length) (h' : n' = (ins k m l).length) : n' ≤ n + 1 := by
  have := ins_length k m l; omega
theorem del_bound {k : ByteArray} {l : List Row} {n n' : Nat} (h : n = l.length) (h' : n' = (del k l).length) : n' ≤ n := by
  have := del_length k l; omega

end Go.Proofs.YtdnafpenljdinadDoor

namespace Go.Proofs.YtdnafpenljdinadDoor
open Go.RowKit

theorem refWrong_holds (l : List Row) (ba : Option Addr) (na ca : Nat) (w : World) (hsm : Small l) (ha : Holds w ba na ca l) :
    Calls Tryd.prog 6 #[.slice ba na ca] w fun e w' => e = .returned (.int .i64 (wrong l)) ∧ Below w.heap.size w w' := by
  have h1 := ha.len
  subst h1
  exact refWrong_calls l ba ca w (Nat.le_trans ha.hdr.le ha.hdr.max) hsm ha.seg

end Go.Proofs.YtdnafpenljdinadDoor
