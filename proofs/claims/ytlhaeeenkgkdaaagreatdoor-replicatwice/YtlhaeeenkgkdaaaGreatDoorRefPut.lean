/-
  The closed fact that the statement DeedNamed asks first is so.
  The document's own WrongRows and Get, walked.
  The two views that the statement DeedNamed hands to a deed.
  What the loops of the statement DeedNamed keep.
  Whether two deeds are the same, by the document's answer; the view that the statement DeedTells hands to a deed.
  Put and Drop of the program, of rows that rise.
  The document's own Put, walked: of rows that rise it comes to what the program's Put and Drop come to.
-/
import Derived.Test.YtlhaeeenkgkdaaaGreatDoorDeedSame
import Derived.Test.YtlhaeeenkgkdaaaGreatDoorDeedRun
import Derived.Test.YtlhaeeenkgkdaaaGreatDoorAround
import Derived.Test.YtlhaeeenkgkdaaaGreatDoorOpenDeeds
import Derived.ChangeKeysEq
import Derived.Test.YtlhaeeenkgkdaaaGreatDoorDeedKeys
namespace Go.Proofs.YtlhaeeenkgkdaaaGreatDoor
open Go.RowKit

theorem grew (w : World) (o : Obj) : Below w.heap.size w (w.alloc o) := (Below.refl _ _).alloc (Nat.le_refl _) _
end Go.Proofs.YtlhaeeenkgkdaaaGreatDoor

namespace Go.Proofs.YtlhaeeenkgkdaaaGreatDoor
open Go.RowKit

set_option maxHeartbeats 1000000 in
theorem refGet_calls (l : List Row) (base : Option Addr) (n c : Nat) (k : ByteArray) (w : World) (hs : Srt l) (ha : Holds w base n c l) :
   Calls Tryz.prog 43 #[.slice base n c, .string k] w fun e w' => e = .returned (.tuple #[.int .i64 (num k l), .bool (isAt k l)]) ∧ Below w.heap.size w w' := by
 have HN := hid ha.len
 have hm := Nat.le_trans ha.hdr.le ha.hdr.max
 unfold maxLen at hm
 by_cases h0 : n = 0
 · subst h0
   have hg := hid (get_none (k := k) (l := l) fun j hj => by rw [← HN.out] at hj; omega)
   go_enter Tryz.func43, Tryz.ntmps43
   go_wp2
   go_loop [10] (fun i => i = .int .i64 0) (fun _ => 0)
   case atStart => rfl
   case round =>
     obtain rfl := hrel
     go_wp2
     go_ret2
     exact ⟨by rw [hg.out.1, hg.out.2]; rfl, Below.refl _ _⟩
 rcases ha.seg with h | ⟨b, o, rfl, h1⟩
 · exact absurd (by rw [HN.out, h]; rfl) h0
 have hbw : b < w.heap.size := h1.lt (by rw [← HN.out]; omega)
 have H1 := hid h1
 have HS := hid hs
 clear h1 hs ha h0
 go_enter Tryz.func43, Tryz.ntmps43
 go_wp2
 go_loopw [10] (fun i wr => ∃ j : Nat, j ≤ n ∧ i = .int .i64 j ∧ Hid (∀ t, t < j → (l.getD t default).1 ≠ k) ∧ Below w.heap.size w wr) (fun i _ => n - (intOf i).toNat)
 case atStart => exact ⟨0, Nat.zero_le _, rfl, fun t ht => absurd ht (Nat.not_lt_zero _), Below.refl _ _⟩
 case round =>
   obtain ⟨j, hj, rfl, HA, hbel⟩ := hrel
   have hsz := hbel.size
   by_cases hlt : j < n
   · have hjl : j < l.length := by rw [← HN.out]; exact hlt
     obtain ⟨c1, d1⟩ := (H1.out.below hbel hbw) j hjl
     have HF := hid (get_found (k := k) HS.out hjl)
     have HX : Hid ((l.getD j default).1 ≠ k → ∀ t, t < j + 1 → (l.getD t default).1 ≠ k) := fun hne t ht => by
       by_cases e : t = j
       · rw [e]; exact hne
       · exact HA.out t (by omega)
     generalize (l.getD j default).1 = kk at *
     generalize (l.getD j default).2 = nn at *
     have hi : (j : Int) < (n : Int) := by omega
     by_cases hk : kk = k
     · have hkb : (kk.toList == k.toList) = true := by rw [hk]; simp
       have HE := hid (HF.out hk)
       clear hk
       go_wp2
       go_ret2
       exact ⟨by rw [HE.out.1, HE.out.2]; rfl, hbel.alloc hsz _⟩
     · have hkb : (kk.toList == k.toList) = false := by simpa using fun e => hk (toList_inj e)
       go_wp2
       go_roundw
       case rel => exact ⟨j + 1, by omega, by go_num, HX.out hk, hbel.alloc hsz _⟩
       case measure => simp [intOf]; omega
   · have HG := hid (get_none (k := k) (l := l) fun t ht => HA.out t (by rw [← HN.out] at ht; omega))
     go_wp2
     go_ret2
     exact ⟨by rw [HG.out.1, HG.out.2]; rfl, hbel⟩
end Go.Proofs.YtlhaeeenkgkdaaaGreatDoor

namespace Go.Proofs.YtlhaeeenkgkdaaaGreatDoor
open Go.RowKit

theorem seen_num (k : ByteArray) (l : List Row) : (if isAt k l = true then num k l else 0) = num k l := by
 cases h : isAt k l with
 | true => rfl
 | false => rw [num_not k l h]; rfl

end Go.Proofs.YtlhaeeenkgkdaaaGreatDoor

namespace Go.Proofs.YtlhaeeenkgkdaaaGreatDoor
open Go.RowKit

def nameMap (l : List ByteArray) : ByteArray → Option Value := fun k => if has l k = true then some (.bool true) else none
structure HK2 (w wr : World) (s j : Nat) (L : List ByteArray) : Prop where
 map : MapIs wr s j (nameMap (L.take j))
 old : Below s w wr
theorem below_cell {B : Nat} {w w' : World} {b x : Nat} {v : Value} (hb : Below B w w') (hB : b < B) (h : w.cell? ⟨b, x, none⟩ = some v) : w'.cell? ⟨b, x, none⟩ = some v := by
 rw [hb.cell (p := ⟨b, x, none⟩) hB]; exact h
theorem intCells : Tryz.prog.cellsOf 3 = 1 := by kernel_rfl
set_option maxRecDepth 100000 in
theorem regsEq (a b c d : Int) (w : World) : (Op.equalIn 9999 81 (.agg #[.int .i64 a, .int .i64 b, .int .i64 c, .int .i64 d]) (.agg #[.int .i64 a, .int .i64 b, .int .i64 c, .int .i64 d])).run Tryz.prog w = .ok true w := by
 obtain ⟨i, hi⟩ : ∃ i, Tryz.prog.info? 3 = some i := ⟨_, rfl⟩
 rw [show (9999 : Nat) = 9998 + 1 from rfl, run_equalIn_array w 9998 _ _ Tryz.underlying81 hi, intCells]
 simp [Op.eqItems, List.range, List.range.loop, go_sem]
end Go.Proofs.YtlhaeeenkgkdaaaGreatDoor

namespace Go.Proofs.YtlhaeeenkgkdaaaGreatDoor
open Go.RowKit

set_option maxHeartbeats 4000000 in
theorem refSameDeed_calls (R W : List ByteArray) (C : List Ins) (R' W' : List ByteArray) (C' : List Ins) (rb : Option Addr) (rn rc : Nat) (wb : Option Addr) (wn wc : Nat) (cb : Option Addr) (cn cc : Nat) (rb' : Option Addr) (rn' rc' : Nat) (wb' : Option Addr) (wn' wc' : Nat) (cb' : Option Addr) (cn' cc' : Nat) (w : World)
   (hd : DeedIn w rb rn rc wb wn wc cb cn cc R W C) (hd' : DeedIn w rb' rn' rc' wb' wn' wc' cb' cn' cc' R' W' C') :
   Calls Tryz.prog 76 #[.agg #[.slice rb rn rc, .slice wb wn wc, .slice cb cn cc], .agg #[.slice rb' rn' rc', .slice wb' wn' wc', .slice cb' cn' cc']] w fun e w' =>
     e = .returned (.bool (decide (R = R') && (decide (W = W') && decide (C = C')))) ∧ Below w.heap.size w w' := by
 obtain ⟨A, hA⟩ : ∃ A, A = (w.alloc (.cells #[.slice rb rn rc, .slice wb wn wc, .slice cb cn cc] 44)).alloc (.cells #[.slice rb' rn' rc', .slice wb' wn' wc', .slice cb' cn' cc'] 44) := ⟨_, rfl⟩
 have hb0 : Below w.heap.size w A := by rw [hA]; exact (((Below.refl _ _).alloc (Nat.le_refl _) _).alloc (by simp) _)
 have HB0 := hid hb0
 have HR := hid (fun q => sameTexts_calls R R' rb rn rc rb' rn' rc' (A.drewN q) ((hd.below (below_drewN hb0 q)).tr) ((hd'.below (below_drewN hb0 q)).tr))
 have HW := hid (fun q => sameTexts_calls W W' wb wn wc wb' wn' wc' (A.drewN q) ((hd.below (below_drewN hb0 q)).tw) ((hd'.below (below_drewN hb0 q)).tw))
 have HC1 := hid (hd.below hb0).cd
 have HC2 := hid (hd'.below hb0).cd
 have x2 : A.cell? ⟨w.heap.size, 2, none⟩ = some (.slice cb cn cc) := by rw [hA]; exact box_past _ (box_cell w _ _ 2 _ rfl)
 have y2 : A.cell? ⟨w.heap.size + 1, 2, none⟩ = some (.slice cb' cn' cc') := by
   have := box_cell (w.alloc (.cells #[.slice rb rn rc, .slice wb wn wc, .slice cb cn cc] 44)) #[.slice rb' rn' rc', .slice wb' wn' wc', .slice cb' cn' cc'] 44 2 _ rfl
   rw [World.size_alloc] at this; rw [hA]; exact this
 have HXY := hid (And.intro x2 y2)
 have hm1 := Nat.le_trans hd.cd.hdr.le hd.cd.hdr.max
 have hm2 := Nat.le_trans hd'.cd.hdr.le hd'.cd.hdr.max
 unfold maxLen at hm1 hm2
 have HN1 := hid (Codes.count hd.cd)
 have HN2 := hid (Codes.count hd'.cd)
 clear hd hd' hb0 x2 y2
 generalize decide (R = R') = e1 at *
 generalize decide (W = W') = e2 at *
 cases e1 with
 | false =>
   subst hA
   go_enter Tryz.func76, Tryz.ntmps76
   go_wp2_with fail
   refine (HR.out 0).mono ?_
   rintro e w1 ⟨rfl, q, rfl⟩
   go_wp2
   go_ret
   exact ⟨rfl, below_drewN HB0.out _⟩
 | true =>
   cases e2 with
   | false =>
     subst hA
     go_enter Tryz.func76, Tryz.ntmps76
     go_wp2_with fail
     refine (HR.out 0).mono ?_
     rintro e w1 ⟨rfl, q, rfl⟩
     go_wp2_with fail
     refine (HW.out _).mono ?_
     rintro e w1 ⟨rfl, q2, rfl⟩
     go_wp2
     go_ret
     exact ⟨rfl, below_drewN HB0.out _⟩
   | true =>
     by_cases hne : cn = cn'
     · subst hne
       have HCC : Hid ((true && (true && decide (C = C'))) = decide (C = C')) := by show _ = _; simp
       rw [HCC.out]
       by_cases h0 : cn = 0
       · have h1 : C = [] := List.eq_nil_of_length_eq_zero (by have := HN1.out; omega)
         have h2 : C' = [] := List.eq_nil_of_length_eq_zero (by have := HN2.out; omega)
         subst h0
         subst h1
         subst h2
         subst hA
         go_enter Tryz.func76, Tryz.ntmps76
         go_wp2_with fail
         refine (HR.out 0).mono ?_
         rintro e w1 ⟨rfl, q, rfl⟩
         go_wp2_with fail
         refine (HW.out _).mono ?_
         rintro e w1 ⟨rfl, q2, rfl⟩
         go_wp2
         go_loop [32] (fun i => i = .int .i64 0) (fun _ => 0)
         case atStart => rfl
         case round =>
           obtain rfl := hrel
           go_wp2
           go_ret
           exact ⟨rfl, below_drewN HB0.out _⟩
       · rcases HC1.out.run with h | ⟨b1, o1, rfl, h1⟩
         · exact absurd h h0
         rcases HC2.out.run with h | ⟨b2, o2, rfl, h2⟩
         · exact absurd h h0
         have H1 := hid h1
         have H2 := hid h2
         have z1 := HXY.out.1
         have z2 := HXY.out.2
         clear h1 h2 h0
         subst hA
         go_enter Tryz.func76, Tryz.ntmps76
         go_wp2_with fail
         refine (HR.out 0).mono ?_
         rintro e w1 ⟨rfl, q, rfl⟩
         go_wp2_with fail
         refine (HW.out _).mono ?_
         rintro e w1 ⟨rfl, q2, rfl⟩
         generalize hA2 : (w.alloc (.cells #[.slice rb rn rc, .slice wb wn wc, .slice (some ⟨b1, o1, none⟩) cn cc] 44)).alloc (.cells #[.slice rb' rn' rc', .slice wb' wn' wc', .slice (some ⟨b2, o2, none⟩) cn cc'] 44) = A2 at *
         clear hA2
         go_wp2
         go_loopw [32] (fun i wr => ∃ k : Nat, k ≤ cn ∧ i = .int .i64 k ∧ Hid (C.take k = C'.take k) ∧ ∃ q, wr = A2.drewN q) (fun i _ => cn - (intOf i).toNat)
         case atStart => exact ⟨0, Nat.zero_le _, rfl, rfl, _, rfl⟩
         case round =>
           obtain ⟨k, hk, rfl, HT, q, rfl⟩ := hrel
           by_cases hlt : k < cn
           · have hk1 : k < C.length := by rw [← HN1.out]; exact hlt
             have hk2 : k < C'.length := by rw [← HN2.out]; exact hlt
             obtain ⟨c0, c1, c2, c3, c4⟩ := Codes.cells H1.out hk1
             obtain ⟨d0, d1, d2, d3, d4⟩ := Codes.cells H2.out hk2
             have HS := hid (take_both hk1 hk2 HT.out)
             have HF := hid (ne_both (l := C) (m := C') (k := k))
             generalize C.getD k default = x at *
             generalize C'.getD k default = y at *
             obtain ⟨x0, x1, x2, x3, x4⟩ := x
             obtain ⟨y0, y1, y2, y3, y4⟩ := y
             simp only [Ins.kind, Ins.a, Ins.b, Ins.n, Ins.key] at c0 c1 c2 c3 c4 d0 d1 d2 d3 d4
             have hi : (k : Int) < (cn : Int) := by omega
             by_cases he : (x0, x1, x2, x3, x4) = (y0, y1, y2, y3, y4)
             · simp only [Prod.mk.injEq] at he
               obtain ⟨rfl, rfl, rfl, rfl, rfl⟩ := he
               have t0 : (x0 == x0) = true := by simp
               have t1 : (x1 == x1) = true := by simp
               have t2 : (x2 == x2) = true := by simp
               have t3 : (x3 == x3) = true := by simp
               have t4 : (x4.toList == x4.toList) = true := by simp
               go_wp2
               go_quiet (fail)
               go_wp2
               go_roundw
               case rel => exact ⟨k + 1, by omega, by go_num, HS.out (by simp), _, rfl⟩
               case measure => simp [intOf]; omega
             · have HN := hid (HF.out he)
               rcases first_diff he with h | ⟨rfl, h⟩ | ⟨rfl, rfl, h⟩ | ⟨rfl, rfl, rfl, h⟩ | ⟨rfl, rfl, rfl, rfl, h⟩
               · have t := dec_false h
                 clear he h HS HF
                 go_wp2
                 go_quiet (fail)
                 go_wp2
                 go_ret
                 exact ⟨ret_bool (by simp [HN.out]), below_drewN (below_drewN HB0.out _) _⟩
               · have t := dec_false h
                 clear he h HS HF
                 go_wp2
                 go_quiet (fail)
                 go_wp2
                 go_ret
                 exact ⟨ret_bool (by simp [HN.out]), below_drewN (below_drewN HB0.out _) _⟩
               · have t := dec_false h
                 clear he h HS HF
                 go_wp2
                 go_quiet (fail)
                 go_wp2
                 go_ret
                 exact ⟨ret_bool (by simp [HN.out]), below_drewN (below_drewN HB0.out _) _⟩
               · have t := dec_false h
                 clear he h HS HF
                 go_wp2
                 go_quiet (fail)
                 go_wp2
                 go_ret
                 exact ⟨ret_bool (by simp [HN.out]), below_drewN (below_drewN HB0.out _) _⟩
               · have t := streq_false h
                 clear he h HS HF
                 go_wp2
                 go_quiet (fail)
                 go_wp2
                 go_ret
                 exact ⟨ret_bool (by simp [HN.out]), below_drewN (below_drewN HB0.out _) _⟩
           · obtain rfl : k = cn := by omega
             have HE : Hid (C = C') := by
               show _ = _
               have := HT.out
               rwa [List.take_of_length_le (by rw [← HN1.out]; exact Nat.le_refl _), List.take_of_length_le (by rw [← HN2.out]; exact Nat.le_refl _)] at this
             go_wp2
             go_ret
             exact ⟨ret_bool (by simp [HE.out]), below_drewN HB0.out _⟩
     · have HNE : Hid (decide (C = C') = false) := by
         show _ = _
         simp only [decide_eq_false_iff_not]
         exact fun e => hne (by rw [HN1.out, HN2.out, e])
       rw [HNE.out]
       have t : ((cn : Int) == (cn' : Int)) = false := by simp; omega
       subst hA
       go_enter Tryz.func76, Tryz.ntmps76
       go_wp2_with fail
       refine (HR.out 0).mono ?_
       rintro e w1 ⟨rfl, q, rfl⟩
       go_wp2_with fail
       refine (HW.out _).mono ?_
       rintro e w1 ⟨rfl, q2, rfl⟩
       go_wp2
       go_ret
       exact ⟨rfl, below_drewN HB0.out _⟩

end Go.Proofs.YtlhaeeenkgkdaaaGreatDoor

namespace Go.Proofs.YtlhaeeenkgkdaaaGreatDoor
open Go.RowKit

theorem cells_one (w : World) (k : ByteArray) (m : Int) (t : TypeId) : Cells (w.alloc (.cells #[.string k, .int .i64 m] t)) w.heap.size 0 [(k, m)] := fun i hi => by
 obtain rfl : i = 0 := by simpa using hi
 refine ⟨?_, ?_⟩ <;> (rw [World.cell?_alloc_at _ _ _ _ (by simp)]; rfl)

end Go.Proofs.YtlhaeeenkgkdaaaGreatDoor

namespace Go.Proofs.YtlhaeeenkgkdaaaGreatDoor
open Go.RowKit

theorem cells_two (w : World) (p : Obj) (k : ByteArray) (m : Int) (t : TypeId) : Cells ((w.alloc p).alloc (.cells #[.string k, .int .i64 m] t)) (w.heap.size + 1) 0 [(k, m)] := by
 have := cells_one (w.alloc p) k m t
 rwa [World.size_alloc] at this
theorem holds_one {w : World} {b : Nat} {k : ByteArray} {m : Int} (h : Cells w b 0 [(k, m)]) : Holds w (some ⟨b, 0, none⟩) 1 1 [(k, m)] := Holds.cells rfl h (Nat.le_refl _) (by unfold maxLen; omega)

theorem le_alloc {B : Nat} {w : World} {o : Obj} (h : B ≤ w.heap.size) : B ≤ (w.alloc o).heap.size := by rw [World.size_alloc]; omega
theorem measure_step {j n : Nat} (h : j < n) : n - (intOf (.int .i64 ((j : Int) + 1))).toNat < n - (intOf (.int .i64 (j : Int))).toNat := by simp [intOf]; omega

set_option maxHeartbeats 2000000 in
theorem refPut_trueK (l : List Row) (base : Option Addr) (n c : Nat) (k : ByteArray) (x : Int) (w : World) (hn : (n + 1) * 24 ≤ 140737488355328) (hs : Srt l) (ha : Holds w base n c l) :
   Calls Tryz.prog 41 #[.slice base n c, .string k, .int .i64 x, .bool true] w fun e w' =>
     ∃ base' n' c', e = .returned (.slice base' n' c') ∧ Holds w' base' n' c' (refOut true k x l) ∧ Below w.heap.size w w' ∧ Kind w' 117 base' := by
 have HN := hid ha.len
 have HH := hid ha
 have HS := hid hs
 clear ha hs
 go_enter Tryz.func41, Tryz.ntmps41
 go_wp2
 go_loopw [9, 10, 15] (fun v d i wr => ∃ (j m : Nat) (r : List Row), j ≤ n ∧ m ≤ j + 1 ∧ i = .int .i64 j ∧ d = .bool (!allLess k (l.take j)) ∧ Hid (r = stOut true k x (l.take j)) ∧ Hid (wr.ownsRow w.heap.size 117 2 v m (rowCells r)) ∧ Below w.heap.size w wr) (fun _ _ i _ => n - (intOf i).toNat)
 case atStart => exact ⟨0, 0, [], Nat.zero_le _, Nat.zero_le _, rfl, rfl, rfl, World.ownsRow_nil _ _ _ _, Below.refl _ _⟩
 case round =>
   obtain ⟨j, m, r, hj, hm, rfl, rfl, HR, HO, hbel⟩ := hrel
   have hsz := hbel.size
   have HLT := hid HO.out.lt
   by_cases hlt : j < n
   · have hjl : j < l.length := by rw [← HN.out]; exact hlt
     rcases (HH.out.below hbel).seg with h | ⟨b, o, rfl, hc⟩
     · rw [h] at hjl; simp at hjl
     obtain ⟨c1, d1⟩ := hc j hjl
     have hbw := hc.lt (by omega)
     have HT := hid (take_next hjl)
     have hi : (j : Int) < (n : Int) := by omega
     have HP : Hid ((l.getD j default) = ((l.getD j default).1, (l.getD j default).2)) := rfl
     clear hc
     cases hal : allLess k (l.take j) with
     | true =>
       have hmj : m ≤ j := by
         have e1 := HO.out.1
         rw [rowCells_length, HR.out, stOut, if_pos hal, List.length_take] at e1
         omega
       rcases less_cases (l.getD j default).1 k with hx | hx | hx
       · have HE := hid (st_less (has := true) (n := x) hal hx)
         have HAL : Hid (allLess k (l.take (j + 1)) = true) := by show _ = _; rw [HT.out, allLess_snoc, hal, hx]; rfl
         rw [← HT.out, ← HR.out] at HE
         rw [HP.out] at HE
         generalize (l.getD j default).1 = kk at *
         generalize (l.getD j default).2 = nn at *
         have t1 : Op.bytesLess kk.toList k.toList = true := hx
         have t2 : (kk.toList == k.toList) = false := by simpa using fun e => less_ne hx (toList_inj e)
         have HC := hid (holds_one (cells_two wr (.cells #[.string kk, .int .i64 nn] 117) kk nn 117))
         clear hx hal
         go_wp2_with (at_builtin; refine wpList_app _ rfl _ _ rfl w.heap.size _ m r rfl ((HO.out.alloc _).alloc _) _ _ _ _ rfl HC.out (by omega) (by simp; omega) ?_; intro v1 w2 hown1 hg1)
         go_roundw
         case rel => exact ⟨j + 1, m + 1, _, by omega, by omega, by go_num, by rw [HAL.out]; rfl, HE.out.symm, hown1, ((hbel.alloc hsz _).alloc (by simp; omega) _).grown hg1 (by simp; omega) (fun y hy => (HLT.out y hy).1)⟩
         case measure => simp [intOf]; omega
       · have HE := hid (st_eq (has := true) (n := x) hal hx)
         have HAL : Hid (allLess k (l.take (j + 1)) = false) := by show _ = _; rw [HT.out, allLess_snoc, hal, hx, less_irrefl]; rfl
         rw [← HT.out, ← HR.out] at HE
         simp only [if_true] at HE
         generalize (l.getD j default).1 = kk at *
         generalize (l.getD j default).2 = nn at *
         have t1 : Op.bytesLess kk.toList k.toList = false := by rw [hx]; exact less_irrefl _
         have t2 : (kk.toList == k.toList) = true := by rw [hx]; simp
         clear hx hal
         have HC := hid (holds_one (cells_two wr (.cells #[.string kk, .int .i64 nn] 117) k x 117))
         go_wp2_with (at_builtin; refine wpList_app _ rfl _ _ rfl w.heap.size _ m r rfl ((HO.out.alloc _).alloc _) _ _ _ _ rfl HC.out (by omega) (by simp; omega) ?_)
         intro v1 w2 hown1 hg1
         have p1 : w2.cell? ⟨wr.heap.size, 0, none⟩ = some (.string kk) := hg1.cell (cell_past _ (by rw [World.cell?_alloc_at _ _ _ _ (by simp)]; rfl)) (fun e => by have := (HLT.out _ e.symm).2; simp at this)
         go_wp2
         go_roundw
         case rel => exact ⟨j + 1, m + 1, _, by omega, by omega, by go_num, by rw [HAL.out]; rfl, HE.out.symm, hown1, ((hbel.alloc hsz _).alloc (by simp; omega) _).grown hg1 (by simp; omega) (fun y hy => (HLT.out y hy).1)⟩
         case measure => simp [intOf]; omega
       · have HE := hid (st_more (has := true) (n := x) hal hx)
         have HAL : Hid (allLess k (l.take (j + 1)) = false) := by show _ = _; rw [HT.out, allLess_snoc, hal, less_asymm hx]; rfl
         rw [← HT.out, ← HR.out] at HE
         rw [HP.out] at HE
         simp only [if_true] at HE
         generalize (l.getD j default).1 = kk at *
         generalize (l.getD j default).2 = nn at *
         have t1 : Op.bytesLess kk.toList k.toList = false := less_asymm hx
         have t2 : (kk.toList == k.toList) = false := by simpa using fun e => less_ne hx (toList_inj e).symm
         clear hx hal
         have HC := hid (holds_one (cells_two wr (.cells #[.string kk, .int .i64 nn] 117) k x 117))
         have hb1 : (m + 1) * 24 ≤ 140737488355328 := Nat.le_trans (Nat.mul_le_mul_right 24 (show m + 1 ≤ n + 1 by omega)) hn
         have hb2 : (m + 1 + 1) * 24 ≤ 140737488355328 := Nat.le_trans (Nat.mul_le_mul_right 24 (show m + 1 + 1 ≤ n + 1 by omega)) hn
         have hj1 : j + 1 ≤ n := by omega
         have hm2 : m + 1 + 1 ≤ j + 1 + 1 := by omega
         have B1 := hid hb1
         have B2 := hid hb2
         have B3 := hid hj1
         have B4 := hid hm2
         have B5 := hid hlt
         have B6 := hid hsz
         clear hb1 hb2 hj1 hm2
         go_wp2_with (at_builtin; refine wpList_app _ rfl _ _ rfl w.heap.size _ m r rfl ((HO.out.alloc _).alloc _) _ _ _ _ rfl HC.out B1.out (le_alloc (le_alloc B6.out)) ?_)
         intro v1 w2 hown1 hg1
         have p1 : w2.cell? ⟨wr.heap.size, 0, none⟩ = some (.string kk) := hg1.cell (cell_past _ (by rw [World.cell?_alloc_at _ _ _ _ (by simp)]; rfl)) (fun e => Nat.lt_irrefl _ (HLT.out _ e.symm).2)
         have p2 : w2.cell? ⟨wr.heap.size, 1, none⟩ = some (.int .i64 nn) := hg1.cell (cell_past _ (by rw [World.cell?_alloc_at _ _ _ _ (by simp)]; rfl)) (fun e => Nat.lt_irrefl _ (HLT.out _ e.symm).2)
         have HB2 := hid (((hbel.alloc B6.out _).alloc (le_alloc B6.out) _).grown hg1 (le_alloc (le_alloc B6.out)) (fun y hy => (HLT.out y hy).1))
         have HO3 := hid (hown1.alloc (.cells #[.string kk, .int .i64 nn] 117))
         have HLT2 := hid hown1.lt
         have HC2 := hid (holds_one (cells_one w2 kk nn 117))
         clear hown1 hg1
         go_wp2_with (at_builtin; refine wpList_app _ rfl _ _ rfl w.heap.size v1 (m + 1) (r ++ [(k, x)]) rfl HO3.out _ _ _ [(kk, nn)] rfl HC2.out B2.out (le_alloc HB2.out.size) ?_)
         intro v3 w3 hown3 hg3
         go_wp2
         go_roundw
         case rel => exact ⟨j + 1, m + 1 + 1, r ++ [(k, x), (kk, nn)], B3.out, B4.out, by go_num, by rw [HAL.out]; rfl, (by show _ = _; rw [HE.out]; simp), hown3, (HB2.out.alloc HB2.out.size _).grown hg3 (le_alloc HB2.out.size) (fun y hy => (HLT2.out y hy).1)⟩
         case measure => exact measure_step B5.out
     | false =>
       have hx := more_of_done (k := k) HS.out hjl hal
       have HE := hid (st_done (has := true) (n := x) (x := l.getD j default) hal)
       have HAL : Hid (allLess k (l.take (j + 1)) = false) := by show _ = _; rw [HT.out, allLess_snoc, hal]; rfl
       rw [← HT.out, ← HR.out] at HE
       rw [HP.out] at HE
       have hm2 : m + 1 ≤ n + 1 := by omega
       generalize (l.getD j default).1 = kk at *
       generalize (l.getD j default).2 = nn at *
       have t2 : (kk.toList == k.toList) = false := by simpa using fun e => less_ne hx (toList_inj e).symm
       have HC := hid (holds_one (cells_two wr (.cells #[.string kk, .int .i64 nn] 117) kk nn 117))
       clear hx hal
       go_wp2_with (at_builtin; refine wpList_app _ rfl _ _ rfl w.heap.size _ m r rfl ((HO.out.alloc _).alloc _) _ _ _ _ rfl HC.out (by omega) (by simp; omega) ?_; intro v1 w2 hown1 hg1)
       go_roundw
       case rel => exact ⟨j + 1, m + 1, _, by omega, by omega, by go_num, by rw [HAL.out]; rfl, HE.out.symm, hown1, ((hbel.alloc hsz _).alloc (by simp; omega) _).grown hg1 (by simp; omega) (fun y hy => (HLT.out y hy).1)⟩
       case measure => simp [intOf]; omega
   · have htk : l.take j = l := List.take_of_length_le (by rw [← HN.out]; omega)
     rw [htk] at HR
     rw [htk]
     clear htk
     cases hal : allLess k l with
     | false =>
       have HE := hid (st_fin (has := true) (n := x) hal)
       rw [← HR.out] at HE
       clear hal
       obtain ⟨bo, co, rfl, hho⟩ := holds_of_owned HO.out
       go_wp2
       go_ret
       exact ⟨_, _, _, rfl, by rw [HE.out]; exact hho, hbel, Kind.owned HO.out⟩
     | true =>
       have HE := hid (st_end (has := true) (n := x) hal)
       rw [← HR.out] at HE
       simp only [if_true] at HE
       have hmj : m ≤ n := by
         have e1 := HO.out.1
         rw [rowCells_length, HR.out, stOut, if_pos hal, ← HN.out] at e1
         omega
       clear hal
       have HC := hid (holds_one (cells_one wr k x 117))
       go_wp2_with (at_builtin; refine wpList_app _ rfl _ _ rfl w.heap.size _ m r rfl (HO.out.alloc _) _ _ _ _ rfl HC.out (by omega) (by simp; omega) ?_; intro v1 w2 hown1 hg1)
       obtain ⟨bo, co, rfl, hho⟩ := holds_of_owned hown1
       go_wp2
       go_ret
       exact ⟨_, _, _, rfl, by rw [HE.out]; exact hho, (hbel.alloc hsz _).grown hg1 (by simp; omega) (fun y hy => (HLT.out y hy).1), Kind.owned hown1⟩

set_option maxHeartbeats 2000000 in
theorem refPut_falseK (l : List Row) (base : Option Addr) (n c : Nat) (k : ByteArray) (x : Int) (w : World) (hn : (n + 1) * 24 ≤ 140737488355328) (hs : Srt l) (ha : Holds w base n c l) :
   Calls Tryz.prog 41 #[.slice base n c, .string k, .int .i64 x, .bool false] w fun e w' =>
     ∃ base' n' c', e = .returned (.slice base' n' c') ∧ Holds w' base' n' c' (refOut false k x l) ∧ Below w.heap.size w w' ∧ Kind w' 117 base' := by
 have HN := hid ha.len
 have HH := hid ha
 have HS := hid hs
 clear ha hs
 go_enter Tryz.func41, Tryz.ntmps41
 go_wp2
 go_loopw [9, 10, 15] (fun v d i wr => ∃ (j m : Nat) (r : List Row), j ≤ n ∧ m ≤ j + 1 ∧ i = .int .i64 j ∧ d = .bool (!allLess k (l.take j)) ∧ Hid (r = stOut false k x (l.take j)) ∧ Hid (wr.ownsRow w.heap.size 117 2 v m (rowCells r)) ∧ Below w.heap.size w wr) (fun _ _ i _ => n - (intOf i).toNat)
 case atStart => exact ⟨0, 0, [], Nat.zero_le _, Nat.zero_le _, rfl, rfl, rfl, World.ownsRow_nil _ _ _ _, Below.refl _ _⟩
 case round =>
   obtain ⟨j, m, r, hj, hm, rfl, rfl, HR, HO, hbel⟩ := hrel
   have hsz := hbel.size
   have HLT := hid HO.out.lt
   by_cases hlt : j < n
   · have hjl : j < l.length := by rw [← HN.out]; exact hlt
     rcases (HH.out.below hbel).seg with h | ⟨b, o, rfl, hc⟩
     · rw [h] at hjl; simp at hjl
     obtain ⟨c1, d1⟩ := hc j hjl
     have hbw := hc.lt (by omega)
     have HT := hid (take_next hjl)
     have hi : (j : Int) < (n : Int) := by omega
     have HP : Hid ((l.getD j default) = ((l.getD j default).1, (l.getD j default).2)) := rfl
     clear hc
     cases hal : allLess k (l.take j) with
     | true =>
       have hmj : m ≤ j := by
         have e1 := HO.out.1
         rw [rowCells_length, HR.out, stOut, if_pos hal, List.length_take] at e1
         omega
       rcases less_cases (l.getD j default).1 k with hx | hx | hx
       · have HE := hid (st_less (has := false) (n := x) hal hx)
         have HAL : Hid (allLess k (l.take (j + 1)) = true) := by show _ = _; rw [HT.out, allLess_snoc, hal, hx]; rfl
         rw [← HT.out, ← HR.out] at HE
         rw [HP.out] at HE
         generalize (l.getD j default).1 = kk at *
         generalize (l.getD j default).2 = nn at *
         have t1 : Op.bytesLess kk.toList k.toList = true := hx
         have t2 : (kk.toList == k.toList) = false := by simpa using fun e => less_ne hx (toList_inj e)
         have HC := hid (holds_one (cells_two wr (.cells #[.string kk, .int .i64 nn] 117) kk nn 117))
         clear hx hal
         go_wp2_with (at_builtin; refine wpList_app _ rfl _ _ rfl w.heap.size _ m r rfl ((HO.out.alloc _).alloc _) _ _ _ _ rfl HC.out (by omega) (by simp; omega) ?_; intro v1 w2 hown1 hg1)
         go_roundw
         case rel => exact ⟨j + 1, m + 1, _, by omega, by omega, by go_num, by rw [HAL.out]; rfl, HE.out.symm, hown1, ((hbel.alloc hsz _).alloc (by simp; omega) _).grown hg1 (by simp; omega) (fun y hy => (HLT.out y hy).1)⟩
         case measure => simp [intOf]; omega
       · have HE := hid (st_eq (has := false) (n := x) hal hx)
         have HAL : Hid (allLess k (l.take (j + 1)) = false) := by show _ = _; rw [HT.out, allLess_snoc, hal, hx, less_irrefl]; rfl
         rw [← HT.out, ← HR.out] at HE
         simp only [Bool.false_eq_true, if_false, List.append_nil] at HE
         generalize (l.getD j default).1 = kk at *
         generalize (l.getD j default).2 = nn at *
         have t1 : Op.bytesLess kk.toList k.toList = false := by rw [hx]; exact less_irrefl _
         have t2 : (kk.toList == k.toList) = true := by rw [hx]; simp
         clear hx hal
         go_wp2
         go_roundw
         case rel => exact ⟨j + 1, m, r, by omega, by omega, by go_num, by rw [HAL.out]; rfl, HE.out.symm, HO.out.alloc _, hbel.alloc hsz _⟩
         case measure => simp [intOf]; omega
       · have HE := hid (st_more (has := false) (n := x) hal hx)
         have HAL : Hid (allLess k (l.take (j + 1)) = false) := by show _ = _; rw [HT.out, allLess_snoc, hal, less_asymm hx]; rfl
         rw [← HT.out, ← HR.out] at HE
         rw [HP.out] at HE
         simp only [Bool.false_eq_true, if_false, List.append_nil] at HE
         generalize (l.getD j default).1 = kk at *
         generalize (l.getD j default).2 = nn at *
         have t1 : Op.bytesLess kk.toList k.toList = false := less_asymm hx
         have t2 : (kk.toList == k.toList) = false := by simpa using fun e => less_ne hx (toList_inj e).symm
         clear hx hal
         have HC := hid (holds_one (cells_two wr (.cells #[.string kk, .int .i64 nn] 117) kk nn 117))
         go_wp2_with (at_builtin; refine wpList_app _ rfl _ _ rfl w.heap.size _ m r rfl ((HO.out.alloc _).alloc _) _ _ _ _ rfl HC.out (by omega) (by simp; omega) ?_; intro v1 w2 hown1 hg1)
         go_roundw
         case rel => exact ⟨j + 1, m + 1, _, by omega, by omega, by go_num, by rw [HAL.out]; rfl, HE.out.symm, hown1, ((hbel.alloc hsz _).alloc (by simp; omega) _).grown hg1 (by simp; omega) (fun y hy => (HLT.out y hy).1)⟩
         case measure => simp [intOf]; omega
     | false =>
       have hx := more_of_done (k := k) HS.out hjl hal
       have HE := hid (st_done (has := false) (n := x) (x := l.getD j default) hal)
       have HAL : Hid (allLess k (l.take (j + 1)) = false) := by show _ = _; rw [HT.out, allLess_snoc, hal]; rfl
       rw [← HT.out, ← HR.out] at HE
       rw [HP.out] at HE
       have hm2 : m + 1 ≤ n + 1 := by omega
       generalize (l.getD j default).1 = kk at *
       generalize (l.getD j default).2 = nn at *
       have t2 : (kk.toList == k.toList) = false := by simpa using fun e => less_ne hx (toList_inj e).symm
       have HC := hid (holds_one (cells_two wr (.cells #[.string kk, .int .i64 nn] 117) kk nn 117))
       clear hx hal
       go_wp2_with (at_builtin; refine wpList_app _ rfl _ _ rfl w.heap.size _ m r rfl ((HO.out.alloc _).alloc _) _ _ _ _ rfl HC.out (by omega) (by simp; omega) ?_; intro v1 w2 hown1 hg1)
       go_roundw
       case rel => exact ⟨j + 1, m + 1, _, by omega, by omega, by go_num, by rw [HAL.out]; rfl, HE.out.symm, hown1, ((hbel.alloc hsz _).alloc (by simp; omega) _).grown hg1 (by simp; omega) (fun y hy => (HLT.out y hy).1)⟩
       case measure => simp [intOf]; omega
   · have htk : l.take j = l := List.take_of_length_le (by rw [← HN.out]; omega)
     rw [htk] at HR
     rw [htk]
     clear htk
     cases hal : allLess k l with
     | false =>
       have HE := hid (st_fin (has := false) (n := x) hal)
       rw [← HR.out] at HE
       clear hal
       obtain ⟨bo, co, rfl, hho⟩ := holds_of_owned HO.out
       go_wp2
       go_ret
       exact ⟨_, _, _, rfl, by rw [HE.out]; exact hho, hbel, Kind.owned HO.out⟩
     | true =>
       have HE := hid (st_end (has := false) (n := x) hal)
       rw [← HR.out] at HE
       simp only [Bool.false_eq_true, if_false, List.append_nil] at HE
       have hmj : m ≤ n := by
         have e1 := HO.out.1
         rw [rowCells_length, HR.out, stOut, if_pos hal, ← HN.out] at e1
         omega
       clear hal
       obtain ⟨bo, co, rfl, hho⟩ := holds_of_owned HO.out
       go_wp2
       go_ret
       exact ⟨_, _, _, rfl, by rw [HE.out]; exact hho, hbel, Kind.owned HO.out⟩
theorem refPut_true (l : List Row) (base : Option Addr) (n c : Nat) (k : ByteArray) (x : Int) (w : World) (hn : (n + 1) * 24 ≤ 140737488355328) (hs : Srt l) (ha : Holds w base n c l) :
   Calls Tryz.prog 41 #[.slice base n c, .string k, .int .i64 x, .bool true] w fun e w' =>
     ∃ base' n' c', e = .returned (.slice base' n' c') ∧ Holds w' base' n' c' (refOut true k x l) ∧ Below w.heap.size w w' :=
 (refPut_trueK l base n c k x w hn hs ha).mono fun _ _ ⟨b, n', c', h1, h2, h3, _⟩ => ⟨b, n', c', h1, h2, h3⟩
end Go.Proofs.YtlhaeeenkgkdaaaGreatDoor
