/-
  New, Keys and Needs of the program's plans, walked.
  The program's Add of plans: 'behind', and Add.
-/
import Derived.Test.YtlhaeeenkgkdaaaGreatDoorRefNeeds
import Derived.Test.YtlhaeeenkgkdaaaGreatDoorRefNew
import Derived.Test.YtlhaeeenkgkdaaaGreatDoorRefRight
import Derived.Test.YtlhaeeenkgkdaaaGreatDoorPlanLib
import Derived.Deep.DeepCutAuto
import Derived.Deep.RegionWith
import Derived.Test.YtlhaeeenkgkdaaaGreatDoorPlanOwn
namespace Go.Proofs.YtlhaeeenkgkdaaaGreatDoor
open Go.RowKit

theorem planNew_results (tmps : Array Value) (b : Nat) (w : World) {a0 a1 a2 a3 : Option Addr} {n0 n1 n2 n3 c0 c1 c2 c3 : Nat} {z : Int} (h : tmps.getD 2 undef = .pointer (some ⟨b, 0, none⟩)) (hb : Box w b #[.slice a0 n0 c0, .slice a1 n1 c1, .slice a2 n2 c2, .slice a3 n3 c3, .int .i64 z] 33) :
   (results Tryz.f26 tmps).run Tryz.prog w = .ok (.agg #[.slice a0 n0 c0, .slice a1 n1 c1, .slice a2 n2 c2, .slice a3 n3 c3, .int .i64 z]) w := by
 have h' : tmps[2]?.getD undef = .pointer (some ⟨b, 0, none⟩) := by simpa using h
 obtain ⟨k0, k1, k2, k3, k4⟩ := hb.cells5
 simp [results, Tryz.results26, go_sem, h', k0, k1, k2, k3, k4]

set_option maxHeartbeats 4000000 in
set_option maxRecDepth 100000 in
theorem planNew_calls (l : List Row) (base : Option Addr) (n c : Nat) (w : World) (hr : Right l) (hsm : Small l) (ha : Holds w base n c l) :
   Calls Tryz.prog 26 #[.slice base n c] w fun x w' => EngTold w w' (newE l) x := by
 have HBX := hid (Box.new w #[.slice none 0 0, .slice none 0 0, .slice none 0 0, .slice none 0 0, .int .i64 0] 33)
 have HB0 := hid (grew w (.cells #[.slice none 0 0, .slice none 0 0, .slice none 0 0, .slice none 0 0, .int .i64 0] 33))
 have PO := hid (ofC_calls l base n c _ hr hsm (ha.below HB0.out))
 clear ha hr hsm
 go_enter Tryz.func26, Tryz.ntmps26
 go_wp2_with fail
 refine PO.out.mono ?_
 rintro x w1 ⟨b1, n1, c1, rfl, h1, hb1⟩
 have HX1 := hid (HBX.out.below hb1)
 obtain ⟨x0, x1, x2, x3, x4⟩ := HX1.out.cells5
 obtain ⟨f0, f1, f2, f3, f4⟩ := HX1.out.free5
 have hxl : w.heap.size < w1.heap.size := HX1.out.lt
 have HLI : Hid (EngLies w1 b1 n1 c1 none 0 0 none 0 0 none 0 0 (newE l)) :=
   ⟨h1, ⟨rfl, ⟨Nat.le_refl _, Nat.zero_le _, fun _ => rfl⟩, .inl rfl⟩, Lies.none _ _, Lies.none _ _, Kind.none _ _, Kind.none _ _, Kind.none _ _⟩
 have HLF := hid (HLI.out.put HX1.out (put5_off w1 w.heap.size (.slice b1 n1 c1) (.slice none 0 0) (.slice none 0 0) (.slice none 0 0) (.int .i64 0)))
 have HBF := hid (put5_box HX1.out (.slice b1 n1 c1) (.slice none 0 0) (.slice none 0 0) (.slice none 0 0) (.int .i64 0))
 have HBE := hid (put5_below (below_deep HB0.out hb1) (Nat.le_refl _) (.slice b1 n1 c1) (.slice none 0 0) (.slice none 0 0) (.slice none 0 0) (.int .i64 0))
 unfold put5 at HLF HBF HBE
 clear h1 hb1 PO
 go_wp2
 (try simp only [Exit.inBlock, Exit.then])
 refine bodyPost_ret (planNew_results _ w.heap.size _ rfl HBF.out) rfl ?_
 exact ⟨_, rfl, ⟨_, _, _, _, _, _, _, _, _, _, _, _, rfl, HLF.out⟩, HBE.out⟩

theorem filter_snoc (l : List ByteArray) (f : ByteArray → Bool) {j : Nat} (h : j < l.length) : (l.take (j + 1)).filter f = (l.take j).filter f ++ if f (l.getD j default) = true then [l.getD j default] else [] := by
 rw [take_snoc_getD h, List.filter_append]
 congr 1
 by_cases hf : f (l.getD j default) = true
 · rw [if_pos hf, List.filter_cons, if_pos hf]; rfl
 · rw [if_neg hf, List.filter_cons, if_neg hf]; rfl

set_option maxHeartbeats 4000000 in
set_option maxRecDepth 100000 in
theorem planKeys_calls (d : Deed3) (rb : Option Addr) (rn rc : Nat) (wb : Option Addr) (wn wc : Nat) (cb : Option Addr) (cn cc : Nat) (w : World) (hd : DeedIn w rb rn rc wb wn wc cb cn cc d.1 d.2.1 d.2.2) (hR : RightDD d) :
   Calls Tryz.prog 97 #[.agg #[.slice rb rn rc, .slice wb wn wc, .slice cb cn cc]] w fun e w' => ∃ b n c, e = .returned (.slice b n c) ∧ Texts w' b n c (keysD d) ∧ Below w.heap.size w w' := by
 have hrn := Texts.count hd.tr
 have hwn := Texts.count hd.tw
 have hr5 : rn ≤ 5 := by rw [hrn]; exact wKeys_len hR.r
 have hw5 : wn ≤ 5 := by rw [hwn]; exact wKeys_len hR.w
 have HFIN := hid (keysP_is (wKeys_nodup hR.r) (wKeys_nodup hR.w))
 have HKP : Hid (keysP d = d.1 ++ d.2.1.filter (fun k => !has d.1 k)) := rfl
 have HBX := hid (Box.new w #[.slice rb rn rc, .slice wb wn wc, .slice cb cn cc] 44)
 have HBA := hid (grew w (.cells #[.slice rb rn rc, .slice wb wn wc, .slice cb cn cc] 44))
 have HD := hid (hd.below HBA.out)
 have HRN := hid hrn
 have HWN := hid hwn
 have N1 : Hid ((0 + rn) * 16 ≤ 140737488355328) := by show _ ≤ _; omega
 have O1 := hid (strs_one d.1)
 clear hd hrn hwn hR
 go_enter Tryz.func97, Tryz.ntmps97
 go_upto_region 1 with fail
 generalize w.alloc (.cells #[.slice rb rn rc, .slice wb wn wc, .slice cb cn cc] 44) = A at *
 have x0 := HBX.out.cell 0 _ rfl
 have hxl : w.heap.size < A.heap.size := HBX.out.lt
 go_wp2_with (at_builtin; refine wpList_onto _ rfl _ _ 41 9 1 16 _ Tryz.underlying41 strInfo rfl (by decide) (by decide) rfl A.heap.size _ 0 [] rfl (World.ownsRow_nil _ _ _ _) rb rn rc (strs d.1) rfl HD.out.tr O1.out N1.out (Nat.le_refl _) ?_)
 intro v1 w1 hown1 hg1
 have HB1 : Hid (Below A.heap.size A w1) := (Below.refl _ _).grown hg1 (Nat.le_refl _) (fun k hk => by cases hk)
 have HO1 : Hid (w1.ownsRow A.heap.size 9 1 v1 rn (strs d.1)) := by
   show World.ownsRow _ _ _ _ _ _ _
   simpa using hown1
 have x1 := (HBX.out.below HB1.out).cell 1 _ rfl
 have hx1 : w.heap.size < w1.heap.size := (HBX.out.below HB1.out).lt
 clear hown1 hg1 x0 N1 O1
 go_wp2
 go_loopw [3, 12] (fun v i wr => ∃ j r : Nat, j ≤ wn ∧ r ≤ rn + j ∧ i = .int .i64 j ∧ Hid ((d.1 ++ (d.2.1.take j).filter (fun k => !has d.1 k)).length = r) ∧ Hid (wr.ownsRow A.heap.size 9 1 v r (strs (d.1 ++ (d.2.1.take j).filter (fun k => !has d.1 k)))) ∧ Hid (Below A.heap.size A wr)) (fun _ i _ => wn - (intOf i).toNat)
 case atStart => exact ⟨0, rn, Nat.zero_le _, by omega, rfl, (by show _ = _; simp [HRN.out]), (by show World.ownsRow _ _ _ _ _ _ _; simpa using HO1.out), HB1⟩
 case round =>
   obtain ⟨j, r, hj, hr, rfl, HR, HO, HBR⟩ := hrel
   by_cases hlt : j < wn
   · have hjl : j < d.2.1.length := by rw [← HWN.out]; exact hlt
     have hi : (j : Int) < (wn : Int) := by omega
     obtain ⟨b2, o2, rfl, hr2⟩ : ∃ b2 o2, wb = some ⟨b2, o2, none⟩ ∧ Run wr b2 o2 (strs d.2.1) := by
       rcases (HD.out.tw.below (by decide) HBR.out).run with h | h
       · omega
       · exact h
     have c2 := hr2 j _ (strs_at hjl)
     have hb2 : b2 < wr.heap.size := by simpa using World.block_lt_of_cell? _ _ c2
     have x0 := (HBX.out.below HBR.out).cell 0 _ rfl
     have hxr : w.heap.size < wr.heap.size := (HBX.out.below HBR.out).lt
     have HFS := hid (filter_snoc d.2.1 (fun k => !has d.1 k) hjl)
     have PC := hid (contains_calls d.1 rb rn rc (d.2.1.getD j default) wr (HD.out.tr.below (by decide) HBR.out))
     clear hr2
     generalize (d.2.1.take j).filter (fun k => !has d.1 k) = F at *
     generalize d.2.1.getD j default = k at *
     go_wp2_with fail
     refine PC.out.mono ?_
     rintro x w2 ⟨rfl, rfl⟩
     cases hh : has d.1 k with
     | true =>
       have HF : Hid ((d.2.1.take (j + 1)).filter (fun k => !has d.1 k) = F) := by show _ = _; rw [HFS.out, hh]; simp
       clear hh PC
       go_wp2
       go_roundw
       case rel => exact ⟨j + 1, r, by omega, by omega, by go_num, (by show _ = _; rw [HF.out]; exact HR.out), (by rw [HF.out]; exact HO), HBR⟩
       case measure => simp [intOf]; omega
     | false =>
       have HF : Hid ((d.2.1.take (j + 1)).filter (fun k => !has d.1 k) = F ++ [k]) := by show _ = _; rw [HFS.out, hh]; simp
       clear hh PC
       have HC1 := hid (lies_one wr #[.string k] 9 1 rfl)
       have HOA := hid (HO.out.alloc (.cells #[.string k] 9))
       have HBY : Hid ((r + 1) * 16 ≤ 140737488355328) := by show _ ≤ _; omega
       have HSZ := hid (step_box HBR.out (.cells #[.string k] 9))
       go_wp2_with (at_builtin; refine wpList_onto _ rfl _ _ 41 9 1 16 _ Tryz.underlying41 strInfo rfl (by decide) (by decide) rfl A.heap.size _ r _ rfl HOA.out _ 1 _ _ rfl HC1.out (strs_one [k]) HBY.out HSZ.out.size ?_)
       intro v3 w3 hown3 hg3
       have HB3 := hid (step_row HSZ.out HOA.out hg3)
       have HO3 : Hid (w3.ownsRow A.heap.size 9 1 v3 (r + 1) (strs (d.1 ++ (F ++ [k])))) := by
         show World.ownsRow _ _ _ _ _ _ _
         rw [← List.append_assoc, strs_append (d.1 ++ F)]; exact hown3
       clear hown3 hg3
       go_wp2
       go_roundw
       case rel => exact ⟨j + 1, r + 1, by omega, by omega, by go_num, (by show _ = _; rw [HF.out, ← List.append_assoc, List.length_append, HR.out]; rfl), (by rw [HF.out]; exact HO3), HB3⟩
       case measure => simp [intOf]; omega
   · obtain rfl : j = wn := by omega
     rw [List.take_of_length_le (by rw [← HWN.out]; exact Nat.le_refl _), ← HKP.out, HFIN.out] at HO
     obtain ⟨ob, oc, rfl, hol⟩ := Lies.owned HO.out
     have HOL : Hid (Texts wr ob r oc (keysD d)) := hol
     clear hol
     go_wp2
     go_ret
     exact ⟨_, _, _, rfl, HOL.out, below_deep HBA.out HBR.out⟩

set_option maxHeartbeats 1000000 in
set_option maxRecDepth 100000 in
theorem number_calls6 (cb : Option Addr) (cn cc : Nat) (db : Option Addr) (dn dc : Nat) (sb : Option Addr) (sn sc : Nat) (eb : Option Addr) (en ec : Nat) (bs at_ : Int) (w : World) (h0 : 0 ≤ bs) (h1 : bs ≤ 1954687338211) (h2 : 0 ≤ at_) (h3 : at_ ≤ 1954687338211) :
   Calls Tryz.prog 91 #[.agg #[.slice cb cn cc, .slice db dn dc, .slice sb sn sc, .slice eb en ec, .int .i64 bs], .int .i64 at_] w fun x w' => x = .returned (.int .i64 (bs + at_)) ∧ Below w.heap.size w w' := by
 have HB := hid (grew w (.cells #[.slice cb cn cc, .slice db dn dc, .slice sb sn sc, .slice eb en ec, .int .i64 bs] 33))
 have hs : IntKind.i64.wrap (bs + at_) = bs + at_ := by rw [IntKind.wrap_i64]; omega
 go_enter Tryz.func91, Tryz.ntmps91
 go_wp2
 go_ret
 exact ⟨rfl, HB.out⟩
end Go.Proofs.YtlhaeeenkgkdaaaGreatDoor

namespace Go.Proofs.YtlhaeeenkgkdaaaGreatDoor
open Go.RowKit

theorem below_rowB {B : Nat} {w wr w6 : World} {o : Obj} {e s n : Nat} {v : Value} {xs : List Value} (h : Below B w wr) (hB : B ≤ wr.heap.size) (ho : wr.ownsRow B e s v n xs) (hg : (wr.alloc o).grownBy w6 v.ownBlock) {blk : Nat} (hb : B ≤ blk) (j : Nat) (u : Value) : Below B w (w6.setCell ⟨blk, j, none⟩ u) :=
 ((h.alloc hB o).grown hg (le_box hB) (fun k hk => (ho.lt k hk).1)).setCell (p := ⟨blk, j, none⟩) hb u
theorem box_rowB {B : Nat} {W w6 : World} {e s n b blk : Nat} {v : Value} {xs : List Value} {cs : Array Value} {t : TypeId} (hz : Box W b cs t) (ho : W.ownsRow B e s v n xs) (hne : t ≠ e) (hg : W.grownBy w6 v.ownBlock) (hb : b ≠ blk) (j : Nat) (u : Value) : Box (w6.setCell ⟨blk, j, none⟩ u) b cs t :=
 (hz.grown hg (own_ne ho hz hne)).far ⟨blk, j, none⟩ hb u
theorem below_lowerB {B C : Nat} {w w' : World} (h : Below C w w') (hBC : B ≤ C) : Below B w w' := ⟨h.os, h.tape, h.output, h.size, fun k hk => h.block k (Nat.lt_of_lt_of_le hk hBC)⟩
def KeepsB (w w' : World) : Prop := ∀ (b : Nat) (cs : Array Value) (t : TypeId), Box w b cs t → t ≠ 44 → t ≠ 3 → t ≠ 83 → Box w' b cs t
theorem behind_results (tmps : Array Value) (b : Nat) (w : World) {a0 a1 a2 a3 : Option Addr} {n0 n1 n2 n3 c0 c1 c2 c3 : Nat} {z : Int} (h : tmps.getD 4 undef = .pointer (some ⟨b, 0, none⟩)) (hb : Box w b #[.slice a0 n0 c0, .slice a1 n1 c1, .slice a2 n2 c2, .slice a3 n3 c3, .int .i64 z] 33) :
   (results Tryz.f75 tmps).run Tryz.prog w = .ok (.agg #[.slice a0 n0 c0, .slice a1 n1 c1, .slice a2 n2 c2, .slice a3 n3 c3, .int .i64 z]) w := by
 have h' : tmps[4]?.getD undef = .pointer (some ⟨b, 0, none⟩) := by simpa using h
 obtain ⟨k0, k1, k2, k3, k4⟩ := hb.cells5
 simp [results, Tryz.results75, go_sem, h', k0, k1, k2, k3, k4]

set_option maxHeartbeats 16000000 in
set_option maxRecDepth 100000 in
theorem behind_calls {r0 : List Row} {D : List Deed3} {m : Nat} {dq : Nat → Bool} {bq : ByteArray → Int} {e : Eng} (G : Good r0 D m dq bq e) (hD : D.length ≤ 1954687338211) {d : Deed3} (hR : RightDD d) (B : Nat) (cb : Option Addr) (cn cc : Nat) (v1 v2 v3 : Value) (rb : Option Addr) (rn rc : Nat) (wb : Option Addr) (wn wcc : Nat) (xb : Option Addr) (xn xc : Nat) (w : World)
   (he : EngOwn w B cb cn cc v1 v2 v3 e) (hd : DSlotK w ((rb, rn, rc), (wb, wn, wcc), (xb, xn, xc)) d) (hB : B ≤ w.heap.size) :
   Calls Tryz.prog 75 #[.agg #[.slice cb cn cc, v1, v2, v3, .int .i64 e.base], .agg #[.slice rb rn rc, .slice wb wn wcc, .slice xb xn xc]] w fun x w' => OwnTold w w' B (addD e d) x ∧ KeepsB w w' := by
 obtain ⟨db, dc, sb, sc, eb, ec, rfl, rfl, rfl, -⟩ := he.lies
 have HFIT := hid (fun t => G.fit_add hD hR.w t)
 have hdn : e.deeds.length ≤ 1954687338211 := by rw [G.len]; omega
 have hsn : e.state.length ≤ 1954687338211 := by rw [G.slen, G.len]; omega
 have hen : e.ends.length ≤ 1954687338211 := by rw [G.elen, G.len]; omega
 have hbs0 : 0 ≤ e.base := by rw [G.base]; omega
 have hbs1 : e.base ≤ 1954687338211 := by rw [G.base]; have := G.le; omega
 have HWN : Hid (wn = d.2.1.length) := Texts.count hd.1.1.tw
 have hwn5 : wn ≤ 5 := by rw [HWN.out]; exact wKeys_len hR.w
 have HSW := hid hd.1.2.2
 have HB0 := hid (grew w (.cells #[.slice cb cn cc, .slice db e.deeds.length dc, .slice sb e.state.length sc, .slice eb e.ends.length ec, .int .i64 e.base] 33))
 have HX0 := hid (Box.new w #[.slice cb cn cc, .slice db e.deeds.length dc, .slice sb e.state.length sc, .slice eb e.ends.length ec, .int .i64 e.base] 33)
 have HE0 := hid (he.below HB0.out)
 have HD0 := hid (hd.below HB0.out)
 have HS0 : Hid ((w.alloc (.cells #[.slice cb cn cc, .slice db e.deeds.length dc, .slice sb e.state.length sc, .slice eb e.ends.length ec, .int .i64 e.base] 33)).heap.size = w.heap.size + 1) := World.size_alloc _ _
 generalize hA1 : w.alloc (.cells #[.slice cb cn cc, .slice db e.deeds.length dc, .slice sb e.state.length sc, .slice eb e.ends.length ec, .int .i64 e.base] 33) = A1 at *
 have HB1 := hid (grew A1 (.cells #[.slice rb rn rc, .slice wb wn wcc, .slice xb xn xc] 44))
 have HY0 := hid (Box.new A1 #[.slice rb rn rc, .slice wb wn wcc, .slice xb xn xc] 44)
 have HX1 := hid (HX0.out.below HB1.out)
 have HE1 := hid (HE0.out.below HB1.out)
 have HD1 := hid (HD0.out.below HB1.out)
 have HS1 : Hid ((A1.alloc (.cells #[.slice rb rn rc, .slice wb wn wcc, .slice xb xn xc] 44)).heap.size = w.heap.size + 2) := by show _ = _; rw [World.size_alloc, HS0.out]
 rw [HS0.out] at HY0
 have HBA := hid (below_deep HB0.out HB1.out)
 generalize hA2 : A1.alloc (.cells #[.slice rb rn rc, .slice wb wn wcc, .slice xb xn xc] 44) = A2 at *
 have HB2 := hid (grew A2 (.cells zeroA 33))
 have HZ0 := hid (Box.new A2 zeroA 33)
 have HX2 := hid (HX1.out.below HB2.out)
 have HE2 := hid (HE1.out.below HB2.out)
 have HD2 := hid (HD1.out.below HB2.out)
 have HY2 := hid (HY0.out.below HB2.out)
 rw [HS1.out] at HZ0
 have HBW := hid (below_deep HBA.out HB2.out)
 have HS2 : Hid ((A2.alloc (.cells zeroA 33)).heap.size = w.heap.size + 3) := by show _ = _; rw [World.size_alloc, HS1.out]
 clear G hD hR he hd HB0 HX0 HE0 HD0 HB1 HY0 HX1 HE1 HD1 HBA HB2
 subst hA2
 subst hA1
 clear HS0 HS1
 go_enter Tryz.func75, Tryz.ntmps75
 go_upto_region 1 with fail
 generalize ((w.alloc (.cells #[.slice cb cn cc, .slice db e.deeds.length dc, .slice sb e.state.length sc, .slice eb e.ends.length ec, .int .i64 e.base] 33)).alloc (.cells #[.slice rb rn rc, .slice wb wn wcc, .slice xb xn xc] 44)).alloc (.cells zeroA 33) = A at *
 obtain ⟨x0, x1, x2, x3, x4⟩ := HX2.out.cells5
 have hal : w.heap.size < A.heap.size := HX2.out.lt
 have HNUM := hid (fun W => number_calls6 cb cn cc db e.deeds.length dc sb e.state.length sc eb e.ends.length ec e.base e.deeds.length W hbs0 hbs1 (by omega) (by omega))
 go_wp2_with fail
 refine (HNUM.out _).mono ?_
 rintro x wn0 ⟨rfl, hbn⟩
 have HX3 := hid (HX2.out.below hbn)
 have HE3 := hid (HE2.out.below hbn)
 have HD3 := hid (HD2.out.below hbn)
 have HY3 := hid (HY2.out.below hbn)
 have HZ3 := hid (HZ0.out.below hbn)
 have HB3 := hid (below_lowerB (below_deep HBW.out hbn) hB)
 have HK3 : Hid (∀ (b : Nat) (cs : Array Value) (t : TypeId), Box w b cs t → Box wn0 b cs t) := fun _ _ _ h => h.below (below_deep HBW.out hbn)
 clear hbn HNUM HX2 HE2 HD2 HY2 HZ0 HBW x0 x1 x2 x3 x4 hal HS2
 have y1 := HY3.out.cell 1 _ rfl
 have hyl : w.heap.size + 1 < wn0.heap.size := HY3.out.lt
 have HCH := hid HE3.out.ch
 go_wp2
 go_loopw [16] (fun i wr => ∃ (t : Nat) (cb2 : Option Addr) (cn2 cc2 : Nat), t ≤ wn ∧ i = .int .i64 t ∧ Hid (Box wr w.heap.size #[.slice cb2 cn2 cc2, .slice db e.deeds.length dc, .slice sb e.state.length sc, .slice eb e.ends.length ec, .int .i64 e.base] 33) ∧ Hid (ChK wr cb2 cn2 cc2 (addW (e.base + e.deeds.length) (d.2.1.take t) e.chains)) ∧ Hid (Off w.heap.size wn0 wr) ∧ Hid (Below B w wr)) (fun i _ => wn - (intOf i).toNat)
 case atStart => exact ⟨0, cb, cn, cc, Nat.zero_le _, rfl, HX3, HCH, Off.refl _ _, HB3⟩
 case round =>
   obtain ⟨t, cb2, cn2, cc2, ht, rfl, HXR, HCR, HOF, HBR⟩ := hrel
   by_cases htl : t < wn
   · have htW : t < d.2.1.length := by rw [← HWN.out]; exact htl
     have hit : (t : Int) < (wn : Int) := by omega
     have HDR := hid (HD3.out.off HX3.out (by decide) (by decide) HOF.out)
     obtain ⟨b2, o2, rfl, hr2⟩ : ∃ b2 o2, wb = some ⟨b2, o2, none⟩ ∧ Run wr b2 o2 (strs d.2.1) := by
       have htw : Texts wr wb wn wcc d.2.1 := HDR.out.1.1.tw
       rcases htw.run with h | h
       · omega
       · exact h
     have q0 := hr2 t _ (strs_at htW)
     have hb2w : b2 < wr.heap.size := by simpa using World.block_lt_of_cell? _ _ q0
     obtain ⟨x0, x1, x2, x3, x4⟩ := HXR.out.cells5
     have hxl : w.heap.size < wr.heap.size := HXR.out.lt
     have HKZ : Hid ((d.2.1.getD t default).size ≤ maxLen) := HSW.out _ (by simp [List.getD, htW])
     have HADD := hid (addC_callsK (addW (e.base + e.deeds.length) (d.2.1.take t) e.chains) cb2 cn2 cc2 (d.2.1.getD t default) (e.base + e.deeds.length) wr (HFIT.out t) HCR.out.chains HKZ.out)
     have HTK : Hid (addW (e.base + e.deeds.length) (d.2.1.take (t + 1)) e.chains = addC (d.2.1.getD t default) (e.base + e.deeds.length) (addW (e.base + e.deeds.length) (d.2.1.take t) e.chains)) := by
       show _ = _
       rw [take_snoc_getD htW, addW_snoc]
     clear hr2
     generalize d.2.1.getD t default = k at *
     go_wp2_with fail
     refine HADD.out.mono ?_
     rintro x w3 ⟨b3, n3, c3, rfl, h3, hb3⟩
     have HX4 := hid (HXR.out.below hb3)
     have g0 := HX4.out.cells5.1
     have f0 := HX4.out.free 0
     have hxl3 : w.heap.size < w3.heap.size := HX4.out.lt
     have HX5 := hid (HX4.out.set 0 (.slice b3 n3 c3))
     have HC5 : Hid (ChK (w3.setCell ⟨w.heap.size, 0, none⟩ (.slice b3 n3 c3)) b3 n3 c3 (addW (e.base + e.deeds.length) (d.2.1.take (t + 1)) e.chains)) := by
       show ChK _ _ _ _ _
       rw [HTK.out]
       exact h3.off HX4.out (by decide) (by decide) (Off.set _ _ _ _)
     have HO5 := hid ((HOF.out.trans (Off.below hb3)).trans (Off.set w3 w.heap.size 0 (.slice b3 n3 c3)))
     have HB5 := hid ((HBR.out.trans (below_lowerB hb3 (Nat.le_trans hB (Nat.le_of_lt hxl)))).setCell (p := ⟨w.heap.size, 0, none⟩) hB (.slice b3 n3 c3))
     clear h3 hb3 HADD x0 x1 x2 x3 x4 q0
     go_wp2
     go_roundw
     case rel => exact ⟨t + 1, b3, n3, c3, by omega, by go_num, HX5, HC5, HO5, HB5⟩
     case measure => simp [intOf]; omega
   · obtain rfl : t = wn := by omega
     have HCW : Hid (ChK wr cb2 cn2 cc2 (addD e d).chains) := by
       have := HCR.out
       rw [List.take_of_length_le (by rw [← HWN.out]; exact Nat.le_refl _)] at this
       exact this
     have HLO := hid (HE3.out.put HX3.out HOF.out)
     have HYR := hid (box_off HY3.out HOF.out (by omega))
     have HZR := hid (box_off HZ3.out HOF.out (by omega))
     have HDR := hid (HD3.out.off HX3.out (by decide) (by decide) HOF.out)
     have HKR : Hid (∀ (b : Nat) (cs : Array Value) (t : TypeId), Box w b cs t → Box wr b cs t) := fun b cs t h => box_off (HK3.out b cs t h) HOF.out (Nat.ne_of_lt h.lt)
     clear HCR HK3 HOF HX3 HE3 HD3 HY3 HZ3 HB3 y1 hyl HCH HFIT HSW HWN
     obtain ⟨-, ⟨T, ho, hT⟩, hst, hen2⟩ := HLO.out
     have HO1 := hid (ho.alloc (.cells #[.slice rb rn rc, .slice wb t wcc, .slice xb xn xc] 44))
     have HGA := hid (grew wr (.cells #[.slice rb rn rc, .slice wb t wcc, .slice xb xn xc] 44))
     have hBr : B ≤ wr.heap.size := Nat.le_trans hB (Nat.le_of_lt HXR.out.lt)
     have SZ1 := hid (le_box (o := .cells #[.slice rb rn rc, .slice wb t wcc, .slice xb xn xc] 44) hBr)
     have L1 := hid (lies_one wr #[.slice rb rn rc, .slice wb t wcc, .slice xb xn xc] 44 3 rfl)
     have N1 : Hid ((e.deeds.length + 1) * 72 ≤ 140737488355328) := by show _ ≤ _; omega
     have N2 : Hid ((e.state.length + 1) * 8 ≤ 140737488355328) := by show _ ≤ _; omega
     have N3 : Hid ((e.ends.length + 1) * 40 ≤ 140737488355328) := by show _ ≤ _; omega
     have O1 := hid (dslotC_one ((rb, rn, rc), (wb, t, wcc), (xb, xn, xc)))
     have x1 := HXR.out.cells5.2.1
     have hxl : w.heap.size < wr.heap.size := HXR.out.lt
     have y0 := HYR.out.cell 0 _ rfl
     have y1 := HYR.out.cell 1 _ rfl
     have y2 := HYR.out.cell 2 _ rfl
     have hyl : w.heap.size + 1 < wr.heap.size := HYR.out.lt
     go_wp2_with (at_builtin; refine wpList_onto _ rfl _ _ 24 44 3 72 _ Tryz.underlying24 deedInfo rfl (by decide) (by decide) rfl B _ e.deeds.length (flat dslotC T) rfl HO1.out _ 1 _ _ rfl L1.out O1.out N1.out SZ1.out ?_)
     intro v6 w6 hown6 hg6
     obtain ⟨b6, c6, rfl, -⟩ := Lies.owned hown6
     have HF := hid (own_deeds (e := ⟨(addD e d).chains, e.deeds, e.state, e.ends, e.base⟩) (s := ((rb, rn, rc), (wb, t, wcc), (xb, xn, xc))) (d := d) (HXR.out.below HGA.out) (HCW.out.below HGA.out) HO1.out (hT.below HGA.out) (hst.alloc (.cells #[.slice rb rn rc, .slice wb t wcc, .slice xb xn xc] 44)) (hen2.alloc (.cells #[.slice rb rn rc, .slice wb t wcc, .slice xb xn xc] 44)) (HDR.out.below HGA.out) hown6 hg6)
     have HB6 := hid (below_rowB HBR.out hBr ho hg6 hB 1 (.slice b6 (e.deeds.length + 1) c6))
     have HZ6 := hid (box_rowB (blk := w.heap.size) (HZR.out.below HGA.out) HO1.out (by decide) hg6 (by omega) 1 (.slice b6 (e.deeds.length + 1) c6))
     have HK6 : Hid (∀ (b : Nat) (cs : Array Value) (y : TypeId), Box w b cs y → y ≠ 44 → Box (w6.setCell ⟨w.heap.size, 1, none⟩ (.slice b6 (e.deeds.length + 1) c6)) b cs y) := fun b cs y h h1 => box_rowB (blk := w.heap.size) ((HKR.out b cs y h).below HGA.out) HO1.out h1 hg6 (Nat.ne_of_lt h.lt) 1 _
     have g1 := HF.out.1.cells5.2.1
     have f1 := HF.out.1.free 1
     have hl6 : w.heap.size < w6.heap.size := HF.out.1.lt
     have HX6 := hid HF.out.2.1
     have HE6 := hid HF.out.2.2
     clear hown6 hg6 HF HKR HCW HLO HYR HZR HDR ho hT hst hen2 HO1 HGA SZ1 L1 O1 x1 y0 y1 y2 hyl N1 HXR HBR hxl
     go_upto_region 8 with fail
     clear g1 f1
     generalize w6.setCell ⟨w.heap.size, 1, none⟩ (.slice b6 (e.deeds.length + 1) c6) = W1 at *
     have hB1 : B ≤ W1.heap.size := Nat.le_trans hB (Nat.le_of_lt HX6.out.lt)
     have ho2 := hid HE6.out.st
     have HO2 := hid (HE6.out.st.alloc (.cells #[.int .i64 0] 3))
     have HG2 := hid (grew W1 (.cells #[.int .i64 0] 3))
     have SZ2 := hid (le_box (o := .cells #[.int .i64 0] 3) hB1)
     have L2 := hid (lies_one W1 #[.int .i64 0] 3 1 rfl)
     have x2 := HX6.out.cells5.2.2.1
     have hx2 : w.heap.size < W1.heap.size := HX6.out.lt
     go_wp2_with (at_builtin; refine wpList_onto _ rfl _ _ 23 3 1 8 _ Tryz.underlying23 intInfo rfl (by decide) (by decide) rfl B _ e.state.length (intsC e.state) rfl HO2.out _ 1 _ _ rfl L2.out (intsC_one [0]) N2.out SZ2.out ?_)
     intro v7 w7 hown7 hg7
     obtain ⟨b7, c7, rfl, -⟩ := Lies.owned hown7
     have HF := hid (own_state (x := 0) (HX6.out.below HG2.out) (HE6.out.below HG2.out) hown7 hg7)
     have HB7 := hid (below_rowB HB6.out hB1 ho2.out hg7 hB 2 (.slice b7 (e.state.length + 1) c7))
     have HZ7 := hid (box_rowB (blk := w.heap.size) (HZ6.out.below HG2.out) HO2.out (by decide) hg7 (by omega) 2 (.slice b7 (e.state.length + 1) c7))
     have HK7 : Hid (∀ (b : Nat) (cs : Array Value) (y : TypeId), Box w b cs y → y ≠ 44 → y ≠ 3 → Box (w7.setCell ⟨w.heap.size, 2, none⟩ (.slice b7 (e.state.length + 1) c7)) b cs y) := fun b cs y h h1 h2 => box_rowB (blk := w.heap.size) ((HK6.out b cs y h h1).below HG2.out) HO2.out h2 hg7 (Nat.ne_of_lt h.lt) 2 _
     have g2 := HF.out.1.cells5.2.2.1
     have f2 := HF.out.1.free 2
     have hl7 : w.heap.size < w7.heap.size := HF.out.1.lt
     have HX7 := hid HF.out.2.1
     have HE7 := hid HF.out.2.2
     clear hown7 hg7 HF HK6 ho2 HO2 HG2 SZ2 L2 x2 hx2 N2 HX6 HE6 HB6 HZ6 hl6 hB1
     go_upto_region 9 with fail
     clear g2 f2
     generalize w7.setCell ⟨w.heap.size, 2, none⟩ (.slice b7 (e.state.length + 1) c7) = W2 at *
     have hB2 : B ≤ W2.heap.size := Nat.le_trans hB (Nat.le_of_lt HX7.out.lt)
     have ho3 := hid HE7.out.en
     have HO3 := hid (HE7.out.en.alloc (.cells #[.bool false, .int .i64 0, .int .i64 0, .int .i64 0, .int .i64 0] 83))
     have HG3 := hid (grew W2 (.cells #[.bool false, .int .i64 0, .int .i64 0, .int .i64 0, .int .i64 0] 83))
     have SZ3 := hid (le_box (o := .cells #[.bool false, .int .i64 0, .int .i64 0, .int .i64 0, .int .i64 0] 83) hB2)
     have L3 := hid (lies_one W2 #[.bool false, .int .i64 0, .int .i64 0, .int .i64 0, .int .i64 0] 83 5 rfl)
     have O3 := hid (endCell_one noE)
     have x3 := HX7.out.cells5.2.2.2.1
     have hx3 : w.heap.size < W2.heap.size := HX7.out.lt
     go_wp2_with (at_builtin; refine wpList_onto _ rfl _ _ 31 83 5 40 _ Tryz.underlying31 doneInfo rfl (by decide) (by decide) rfl B _ e.ends.length (endCells e.ends) rfl HO3.out _ 1 _ _ rfl L3.out O3.out N3.out SZ3.out ?_)
     intro v8 w8 hown8 hg8
     obtain ⟨b8, c8, rfl, -⟩ := Lies.owned hown8
     have HF := hid (own_ends (x := noE) (HX7.out.below HG3.out) (HE7.out.below HG3.out) hown8 hg8)
     have HB8 := hid (below_rowB HB7.out hB2 ho3.out hg8 hB 3 (.slice b8 (e.ends.length + 1) c8))
     have HZ8 := hid (box_rowB (blk := w.heap.size) (HZ7.out.below HG3.out) HO3.out (by decide) hg8 (by omega) 3 (.slice b8 (e.ends.length + 1) c8))
     have HK8 : Hid (∀ (b : Nat) (cs : Array Value) (y : TypeId), Box w b cs y → y ≠ 44 → y ≠ 3 → y ≠ 83 → Box (w8.setCell ⟨w.heap.size, 3, none⟩ (.slice b8 (e.ends.length + 1) c8)) b cs y) := fun b cs y h h1 h2 h3 => box_rowB (blk := w.heap.size) ((HK7.out b cs y h h1 h2).below HG3.out) HO3.out h3 hg8 (Nat.ne_of_lt h.lt) 3 _
     have g3 := HF.out.1.cells5.2.2.2.1
     have f3 := HF.out.1.free 3
     have hl8 : w.heap.size < w8.heap.size := HF.out.1.lt
     have HX8 := hid HF.out.2.1
     have HE8 : Hid (EngOwn (w8.setCell ⟨w.heap.size, 3, none⟩ (.slice b8 (e.ends.length + 1) c8)) B cb2 cn2 cc2 (.slice b6 (e.deeds.length + 1) c6) (.slice b7 (e.state.length + 1) c7) (.slice b8 (e.ends.length + 1) c8) (addD e d)) := HF.out.2.2
     clear hown8 hg8 HF HK7 ho3 HO3 HG3 SZ3 L3 O3 x3 hx3 N3 HX7 HE7 HB7 HZ7 hl7 hB2
     go_upto_region 10 with fail
     clear g3 f3
     generalize w8.setCell ⟨w.heap.size, 3, none⟩ (.slice b8 (e.ends.length + 1) c8) = W3 at *
     obtain ⟨x0, x1, x2, x3, x4⟩ := HX8.out.cells5
     obtain ⟨z0, z1, z2, z3, z4⟩ := HZ8.out.cells5
     obtain ⟨f0, f1, f2, f3, f4⟩ := HZ8.out.free5
     have hzl : w.heap.size + 2 < W3.heap.size := HZ8.out.lt
     have hxl : w.heap.size < W3.heap.size := HX8.out.lt
     have HBF := hid (put5_box HZ8.out (.slice cb2 cn2 cc2) (.slice b6 (e.deeds.length + 1) c6) (.slice b7 (e.state.length + 1) c7) (.slice b8 (e.ends.length + 1) c8) (.int .i64 e.base))
     have HEF := hid (HE8.out.put HZ8.out (put5_off W3 (w.heap.size + 2) (.slice cb2 cn2 cc2) (.slice b6 (e.deeds.length + 1) c6) (.slice b7 (e.state.length + 1) c7) (.slice b8 (e.ends.length + 1) c8) (.int .i64 e.base)))
     have HBL := hid (put5_below HB8.out (by omega : B ≤ w.heap.size + 2) (.slice cb2 cn2 cc2) (.slice b6 (e.deeds.length + 1) c6) (.slice b7 (e.state.length + 1) c7) (.slice b8 (e.ends.length + 1) c8) (.int .i64 e.base))
     go_wp2
     refine bodyPost_ret (behind_results _ (w.heap.size + 2) _ rfl HBF.out) rfl ?_
     exact ⟨⟨_, _, _, _, _, _, rfl, HEF.out, HBL.out⟩, fun b cs y h h1 h2 h3 => put5_far (HK8.out b cs y h h1 h2 h3) (Nat.ne_of_lt (Nat.lt_of_lt_of_le h.lt (Nat.le_add_right _ 2))) _ _ _ _ _⟩
end Go.Proofs.YtlhaeeenkgkdaaaGreatDoor
