/-
  The program's way from a text's parts to a deed.
  The document's cut of a text at a text, its numbers, and its words.
  The document's letters of an instruction are the places of its words.
  The program's way from a text to a deed.
  The state between two parts of a text that the document reads.
-/
import Derived.Test.YtlhaeeenkgkdaaaGreatDoorTextKeys
import Derived.Test.YtlhaeeenkgkdaaaGreatDoorDeedSame
namespace Go.Proofs.YtlhaeeenkgkdaaaGreatDoor
open Go.RowKit

def contC (C : List Ins) (r : Int × List Ins) : Int × List Ins := if r.1 = 0 then (0, C ++ r.2) else (r.1, [])
theorem contC_nil (r : Int × List Ins) (h : r.1 ≠ 0 → r.2 = []) : contC [] r = r := by
 unfold contC
 by_cases e : r.1 = 0
 · rw [if_pos e]; exact Prod.ext e.symm rfl
 · rw [if_neg e]; exact Prod.ext rfl (h e).symm
theorem contC_cont (C D : List Ins) (r : Int × List Ins) : contC C (contC D r) = contC (C ++ D) r := by
 unfold contC
 by_cases e : r.1 = 0
 · rw [if_pos e, if_pos rfl, if_pos e]; simp
 · rw [if_neg e, if_neg e, if_neg e]
theorem readCode_cons (p : T) (ps : List T) : readCode (p :: ps) = if (readIns (spl1 [] p)).1 = 0 then contC [(readIns (spl1 [] p)).2] (readCode ps) else ((readIns (spl1 [] p)).1, []) := by
 rw [readCode]
 rcases readIns (spl1 [] p) with ⟨e, i⟩
 by_cases h : e = 0
 · subst h
   simp only [if_true]
   rcases readCode ps with ⟨e2, C⟩
   by_cases h2 : e2 = 0
   · subst h2; simp [contC]
   · simp [contC, h2]
 · simp [h]
theorem readCode_nil : ∀ ps : List T, (readCode ps).1 ≠ 0 → (readCode ps).2 = []
 | [], h => absurd rfl h
 | p :: ps, h => by
   rw [readCode_cons] at h ⊢
   split at h
   · rename_i e
     rw [if_pos e]
     unfold contC at h ⊢
     split at h
     · exact absurd rfl h
     · rename_i e2; rw [if_neg e2]
   · rename_i e
     rw [if_neg e]
theorem code_next {PS : List T} {C : List Ins} {j : Nat} (h : readCode PS = contC C (readCode (PS.drop j))) (hj : j < PS.length) :
   ((readIns (spl1 [] (PS.getD j []))).1 = 0 → readCode PS = contC (C ++ [(readIns (spl1 [] (PS.getD j []))).2]) (readCode (PS.drop (j + 1)))) ∧ ((readIns (spl1 [] (PS.getD j []))).1 ≠ 0 → readCode PS = ((readIns (spl1 [] (PS.getD j []))).1, [])) := by
 rw [drop_getD hj, readCode_cons] at h
 constructor
 · intro e
   rw [if_pos e, contC_cont] at h
   exact h
 · intro e
   rw [if_neg e] at h
   rw [h]
   unfold contC
   rw [if_neg e]
theorem code_end {PS : List T} {C : List Ins} {j : Nat} (h : readCode PS = contC C (readCode (PS.drop j))) (hj : PS.length ≤ j) : readCode PS = (0, C) := by
 rw [h, List.drop_of_length_le hj]
 simp [readCode, contC]
def readP (PT : List T) : Int × List ByteArray × List ByteArray × List Ins :=
 if (spl1 [] (PT.getD 0 [])).headD [] = wReads ∧ (spl1 [] (PT.getD 1 [])).headD [] = wWrites then
   if (readCode (PT.drop 2)).1 = 0 then (0, ((spl1 [] (PT.getD 0 [])).drop 1).map ofT, ((spl1 [] (PT.getD 1 [])).drop 1).map ofT, (readCode (PT.drop 2)).2)
   else ((readCode (PT.drop 2)).1, [], [], [])
 else (2, [], [], [])

theorem insCells_append : ∀ (l m : List Ins), insCells (l ++ m) = insCells l ++ insCells m
 | [], _ => rfl
 | i :: l, m => by simp [insCells, insCells_append l m]

structure DeedAt (w : World) (b : Nat) (x y z : Value) : Prop where
 c0 : w.cell? ⟨b, 0, none⟩ = some x
 c1 : w.cell? ⟨b, 1, none⟩ = some y
 c2 : w.cell? ⟨b, 2, none⟩ = some z
 free : ∀ j, w.frozen? ⟨b, j, none⟩ = false
theorem DeedAt.lt {w : World} {b : Nat} {x y z : Value} (h : DeedAt w b x y z) : b < w.heap.size := World.block_lt_of_cell? _ _ h.c0
theorem DeedAt.below {w w' : World} {b : Nat} {x y z : Value} (h : DeedAt w b x y z) (hb : Below w.heap.size w w') : DeedAt w' b x y z :=
 ⟨kept_cell hb h.c0, kept_cell hb h.c1, kept_cell hb h.c2, fun j => kept_free hb ⟨h.lt, h.free j⟩⟩
theorem DeedAt.under {w w' : World} {b B : Nat} {x y z : Value} (h : DeedAt w b x y z) (hb : Below B w w') (hB : b < B) : DeedAt w' b x y z :=
 ⟨by rw [hb.cell (p := ⟨b, 0, none⟩) hB]; exact h.c0, by rw [hb.cell (p := ⟨b, 1, none⟩) hB]; exact h.c1, by rw [hb.cell (p := ⟨b, 2, none⟩) hB]; exact h.c2, fun j => by rw [hb.frozen (p := ⟨b, j, none⟩) hB]; exact h.free j⟩
theorem DeedAt.far {w : World} {b b' k : Nat} {x y z : Value} (h : DeedAt w b x y z) (hne : b' ≠ b) (v : Value) : DeedAt (w.setCell ⟨b', k, none⟩ v) b x y z :=
 ⟨by rw [World.cell?_setCell_far _ _ _ _ hne]; exact h.c0, by rw [World.cell?_setCell_far _ _ _ _ hne]; exact h.c1, by rw [World.cell?_setCell_far _ _ _ _ hne]; exact h.c2, fun j => by rw [free_set]; exact h.free j⟩
theorem DeedAt.put0 {w : World} {b : Nat} {x y z : Value} (h : DeedAt w b x y z) (v : Value) : DeedAt (w.setCell ⟨b, 0, none⟩ v) b v y z :=
 ⟨World.cell?_setCell_same _ _ _ h.c0, by rw [set_off (by decide)]; exact h.c1, by rw [set_off (by decide)]; exact h.c2, fun j => by rw [free_set]; exact h.free j⟩
theorem DeedAt.put1 {w : World} {b : Nat} {x y z : Value} (h : DeedAt w b x y z) (v : Value) : DeedAt (w.setCell ⟨b, 1, none⟩ v) b x v z :=
 ⟨by rw [set_off (by decide)]; exact h.c0, World.cell?_setCell_same _ _ _ h.c1, by rw [set_off (by decide)]; exact h.c2, fun j => by rw [free_set]; exact h.free j⟩
theorem DeedAt.put2 {w : World} {b : Nat} {x y z : Value} (h : DeedAt w b x y z) (v : Value) : DeedAt (w.setCell ⟨b, 2, none⟩ v) b x y v :=
 ⟨by rw [set_off (by decide)]; exact h.c0, by rw [set_off (by decide)]; exact h.c1, World.cell?_setCell_same _ _ _ h.c2, fun j => by rw [free_set]; exact h.free j⟩
def setThree (w : World) (b : Nat) (x y z : Value) : World := ((w.setCell ⟨b, 0, none⟩ x).setCell ⟨b, 1, none⟩ y).setCell ⟨b, 2, none⟩ z
theorem DeedAt.all {w : World} {b : Nat} {x y z : Value} (h : DeedAt w b x y z) (x' y' z' : Value) : DeedAt (setThree w b x' y' z') b x' y' z' := ((h.put0 x').put1 y').put2 z'
theorem below_three {w0 w : World} (h : Below w0.heap.size w0 w) {b : Nat} (hb : w0.heap.size ≤ b) (x y z : Value) : Below w0.heap.size w0 (setThree w b x y z) :=
 ((h.setCell (p := ⟨b, 0, none⟩) hb _).setCell (p := ⟨b, 1, none⟩) hb _).setCell (p := ⟨b, 2, none⟩) hb _
theorem three_new (w : World) (x y z : Value) (t : TypeId) : DeedAt (w.alloc (.cells #[x, y, z] t)) w.heap.size x y z :=
 ⟨box_cell _ _ _ _ _ rfl, box_cell _ _ _ _ _ rfl, box_cell _ _ _ _ _ rfl, fun _ => World.frozen?_alloc_at _ _ _ _ rfl⟩
theorem lies_off {w : World} {base : Option Addr} {sz n c : Nat} {vs : List Value} (h : Lies w sz base n c vs) {b k : Nat} (hne : ∀ a, base = some a → b ≠ a.block) (v : Value) : Lies (w.setCell ⟨b, k, none⟩ v) sz base n c vs := by
 refine ⟨h.len, h.hdr, ?_⟩
 rcases h.run with h0 | ⟨b', o, e, hr⟩
 · exact .inl h0
 · refine .inr ⟨b', o, e, fun j x hx => ?_⟩
   rw [World.cell?_setCell_far _ _ _ _ (hne _ e)]; exact hr j x hx
theorem lies_offThree {w : World} {base : Option Addr} {sz n c : Nat} {vs : List Value} (h : Lies w sz base n c vs) {b : Nat} (hne : ∀ a, base = some a → b ≠ a.block) (x y z : Value) : Lies (setThree w b x y z) sz base n c vs :=
 lies_off (lies_off (lies_off h hne x) hne y) hne z
theorem lies_under {w w' : World} {base : Option Addr} {sz n c B : Nat} {vs : List Value} (h : Lies w sz base n c vs) (hb : Below B w w') (hlt : ∀ a, base = some a → a.block < B) : Lies w' sz base n c vs := by
 refine ⟨h.len, h.hdr, ?_⟩
 rcases h.run with h0 | ⟨b', o, e, hr⟩
 · exact .inl h0
 · exact .inr ⟨b', o, e, hr.below hb (hlt _ e)⟩
theorem owns_below {w w' : World} {B e sz n : Nat} {v : Value} {l : List Value} (h : w.ownsRow B e sz v n l) (hb : Below w.heap.size w w') : w'.ownsRow B e sz v n l := by
 refine ⟨h.1, ?_⟩
 rcases h.2 with h0 | ⟨g, cap, cur, rfl, h1, h2, h3⟩
 · exact .inl h0
 · have hg : g < w.heap.size := by
     by_cases hl : g < w.heap.size
     · exact hl
     · rw [Array.getElem?_eq_none (by omega)] at h2; cases h2
   exact .inr ⟨g, cap, cur, rfl, h1, by rw [hb.block g hg]; exact h2, h3⟩
theorem owns_set {w : World} {B e sz n : Nat} {v : Value} {l : List Value} (h : w.ownsRow B e sz v n l) {b k : Nat} (hb : b < B) (u : Value) : (w.setCell ⟨b, k, none⟩ u).ownsRow B e sz v n l := by
 refine ⟨h.1, ?_⟩
 rcases h.2 with h0 | ⟨g, cap, cur, rfl, h1, h2, h3⟩
 · exact .inl h0
 · exact .inr ⟨g, cap, cur, rfl, h1, by rw [Below.heap_setCell _ _ _ _ (by show g ≠ b; omega)]; exact h2, h3⟩
theorem owns_fresh {w : World} {base : Option Addr} {B e sz n c : Nat} {l : List Value} (h : w.ownsRow B e sz (.slice base n c) n l) : Fresh B base := fun a e => (h.lt a.block (by rw [e]; rfl)).1

def PartsTold (w : World) (q : Int × List ByteArray × List ByteArray × List Ins) (e : Ending) (w' : World) : Prop :=
 ∃ rb rn rc wb wn wc cb cn cc, e = .returned (.tuple #[.agg #[.slice rb rn rc, .slice wb wn wc, .slice cb cn cc], .int .i64 q.1]) ∧ DeedIn w' rb rn rc wb wn wc cb cn cc q.2.1 q.2.2.1 q.2.2.2 ∧ Below w.heap.size w w' ∧ Fresh w.heap.size rb ∧ Fresh w.heap.size wb ∧ Fresh w.heap.size cb
theorem deed_none (w : World) : DeedIn w none 0 0 none 0 0 none 0 0 [] [] [] := ⟨Lies.none _ _, Lies.none _ _, Lies.none _ _⟩

end Go.Proofs.YtlhaeeenkgkdaaaGreatDoor

namespace Go.Proofs.YtlhaeeenkgkdaaaGreatDoor
open Go.RowKit

theorem extract_ofT (s : ByteArray) (a b : Nat) : s.extract a b = ofT (((keyT s).take b).drop a) := by
 apply keyT_eq
 rw [keyT_ofT]
 show (s.extract a b).data.toList = _
 rw [Lib.extract_data, List.drop_take]
 rfl
theorem extract_rest (s : ByteArray) (a : Nat) : s.extract a s.size = ofT ((keyT s).drop a) := by
 rw [extract_ofT, List.take_of_length_le (by rw [keyT_len]; exact Nat.le_refl _)]

theorem piece_eq {sep : T} {at' s : ByteArray} (hat : keyT at' = sep) (i : Nat) : ((s.extract i (i + at'.size)).toList == at'.toList) = decide (((keyT s).drop i).take sep.length = sep) := by
 have e1 : s.extract i (i + at'.size) = ofT (((keyT s).drop i).take sep.length) := by
   rw [extract_ofT, List.drop_take, ← hat, keyT_len, Nat.add_sub_cancel_left]
 have e2 : at' = ofT sep := by rw [← hat, ofT_keyT]
 rw [e1]
 conv => lhs; rw [e2]
 exact text_same _ _

set_option maxRecDepth 100000 in
set_option maxHeartbeats 4000000 in
theorem refSplit_calls {sep : T} {spl : T → T → List T} (hc : Cuts sep spl) (at' s : ByteArray) (w : World) (hat : keyT at' = sep) (hs : s.size ≤ 100000) (hz : at'.size ≤ 10) :
   Calls Tryz.prog 59 #[.string s, .string at'] w fun e w' => ∃ b o c, e = .returned (.slice (some ⟨b, o, none⟩) (spl [] (keyT s)).length c) ∧ Texts w' (some ⟨b, o, none⟩) (spl [] (keyT s)).length c ((spl [] (keyT s)).map ofT) ∧ Below w.heap.size w w' ∧ w.heap.size ≤ b := by
 have hlen := keyT_len s
 have hsl : sep.length = at'.size := by rw [← hat, keyT_len]
 have hp := hc.pos
 have HC := hid hc
 have HAT := hid hat
 have HLEN := hid hlen
 have HSL := hid hsl
 have hz1 : 1 ≤ at'.size := by omega
 obtain ⟨S, hS⟩ : ∃ S, S = keyT s := ⟨_, rfl⟩
 rw [← hS] at HLEN ⊢
 have HS := hid hS
 clear hc hat hlen hsl hp hS
 go_enter Tryz.func59, Tryz.ntmps59
 go_wp2
 go_loopw [5, 6, 7] (fun v f c wr => ∃ (fr i n : Nat) (L : List T), fr ≤ i ∧ i ≤ s.size ∧ n ≤ i ∧ f = .int .i64 fr ∧ c = .int .i64 i ∧ Hid (spl [] S = L ++ spl ((S.take i).drop fr) (S.drop i)) ∧ Hid (L.length = n) ∧ Hid (wr.ownsRow w.heap.size 9 1 v n (strs (L.map ofT))) ∧ Hid (Below w.heap.size w wr)) (fun _ _ c _ => s.size + 1 - (intOf c).toNat)
 case atStart => exact ⟨0, 0, 0, [], Nat.le_refl _, Nat.zero_le _, Nat.le_refl _, rfl, rfl, (by show _ = _; simp), rfl, World.ownsRow_nil _ _ _ _, Below.refl _ _⟩
 case round =>
   obtain ⟨fr, i, n, L, hfi, his, hni, rfl, rfl, HQ, HLN, HO, HB⟩ := hrel
   by_cases hlt : i + at'.size ≤ s.size
   case neg =>
     have HE := hid (HC.out.at_end (s := S) (k := fr) (i := i) hfi (by rw [HLEN.out]; exact his) (by rw [HLEN.out, HSL.out]; omega))
     have hgt : ¬ ((i : Int) + (at'.size : Int) ≤ (s.size : Int)) := by omega
     have HPC := hid (extract_rest s fr)
     have HOX := hid (HO.out.alloc (.cells #[.string (s.extract fr s.size)] 9))
     have HCX := hid (lies_one wr #[.string (s.extract fr s.size)] 9 1 rfl)
     have HLT := hid HOX.out.lt
     have B1 : Hid ((n + 1) * 16 ≤ 140737488355328) := by show _ ≤ _; omega
     have HFIN : Hid (spl [] S = L ++ [S.drop fr]) := by show _ = _; rw [HQ.out, HE.out]
     go_wp2_with (at_builtin; refine wpList_onto _ rfl _ _ 41 9 1 16 _ Tryz.underlying41 strInfo rfl (by decide) (by decide) rfl w.heap.size _ n _ rfl HOX.out _ 1 _ _ rfl HCX.out (strs_one [s.extract fr s.size]) B1.out (le_box HB.out.size) ?_)
     intro v1 w5 hown hg
     have HB5 := hid (HB.out.trans ((((Below.refl w.heap.size _).alloc HB.out.size (.cells #[.string (s.extract fr s.size)] 9))).grown hg (le_box HB.out.size) (fun y hy => (HLT.out y hy).1)))
     obtain ⟨b1, c1, rfl, hl1⟩ := Lies.owned hown
     have hfr := owns_fresh hown
     rcases hl1.run with h0 | ⟨bb, oo, rfl, hr⟩
     · omega
     have HF := hid hl1
     have HBB : Hid (w.heap.size ≤ bb) := hfr _ rfl
     clear hown hg hl1 hr hfr
     go_wp2
     go_ret
     have e1 : (spl [] S).length = n + 1 := by rw [HFIN.out, List.length_append, HLN.out]; rfl
     refine ⟨bb, oo, c1, by rw [e1]; rfl, ?_, HB5.out, HBB.out⟩
     show Lies _ _ _ _ _ (strs _)
     rw [e1, HFIN.out, List.map_append, strs_append, List.map_cons, List.map_nil, HS.out, ← HPC.out]
     exact HF.out
   case pos =>
     have hle : (i : Int) + (at'.size : Int) ≤ (s.size : Int) := by omega
     have hcmp := piece_eq (s := s) HAT.out i
     rw [← HS.out] at hcmp
     by_cases hh : (S.drop i).take sep.length = sep
     case pos =>
       have HE := hid (HC.out.at_hit (k := fr) hh)
       rw [decide_eq_true hh] at hcmp
       have HPC := hid (extract_ofT s fr i)
       have HOX := hid (HO.out.alloc (.cells #[.string (s.extract fr i)] 9))
       have HCX := hid (lies_one wr #[.string (s.extract fr i)] 9 1 rfl)
       have HLT := hid HOX.out.lt
       have B1 : Hid ((n + 1) * 16 ≤ 140737488355328) := by show _ ≤ _; omega
       clear hh
       go_wp2_with (at_builtin; refine wpList_onto _ rfl _ _ 41 9 1 16 _ Tryz.underlying41 strInfo rfl (by decide) (by decide) rfl w.heap.size _ n _ rfl HOX.out _ 1 _ _ rfl HCX.out (strs_one [s.extract fr i]) B1.out (le_box HB.out.size) ?_)
       intro v1 w5 hown hg
       have HB5 := hid (HB.out.trans ((((Below.refl w.heap.size _).alloc HB.out.size (.cells #[.string (s.extract fr i)] 9))).grown hg (le_box HB.out.size) (fun y hy => (HLT.out y hy).1)))
       have HO5 := hid hown
       clear hown hg
       go_wp2
       go_roundw
       case rel =>
         refine ⟨i + at'.size, i + at'.size, n + 1, L ++ [(S.take i).drop fr], Nat.le_refl _, by omega, by omega, by go_num, by go_num, ?_, ?_, ?_, HB5.out⟩
         · show _ = _
           rw [HQ.out, HE.out, HSL.out, List.append_assoc]
           have : (S.take (i + at'.size)).drop (i + at'.size) = [] := List.drop_of_length_le (by rw [List.length_take]; exact Nat.min_le_left _ _)
           rw [this]; rfl
         · show _ = _
           rw [List.length_append, HLN.out]; rfl
         · show World.ownsRow _ _ _ _ _ _ _
           rw [List.map_append, strs_append, List.map_cons, List.map_nil, HS.out, ← HPC.out]
           exact HO5.out
       case measure => simp [intOf]; omega
     case neg =>
       have HE := hid (HC.out.at_miss (k := fr) hfi (by rw [HLEN.out, HSL.out]; exact hlt) hh)
       rw [decide_eq_false hh] at hcmp
       clear hh
       go_wp2
       go_roundw
       case rel => exact ⟨fr, i + 1, n, L, by omega, by omega, by omega, rfl, by go_num, (by show _ = _; rw [HQ.out, HE.out]), HLN, HO, HB⟩
       case measure => simp [intOf]; omega

set_option maxHeartbeats 1000000 in
theorem refNum_calls (s : ByteArray) (w : World) (hG : GroundN w) (hs : s.size ≤ 100000) :
   Calls Tryz.prog 62 #[.string s] w fun e w' => Told (numOf (keyT s)) e ∧ Below w.heap.size w w' := by
 have HA := hid (atoi_calls s w hG hs)
 have HG := hid hG
 clear hG
 generalize hq : numOf (keyT s) = q
 have HQ := hid hq
 clear hq
 go_enter Tryz.func62, Tryz.ntmps62
 go_wp2_with fail
 refine HA.out.mono ?_
 rintro e w1 ⟨⟨v, hv, rfl⟩ | ⟨v, t, p, hv, rfl⟩, hb⟩
 · have hbd := Lib.atoiAll_bounds hv
   have HI := hid (itoa_calls v w1 (HG.out.below hb) hbd.1 hbd.2)
   have HV := hid (told_ok hv)
   have HB := hid hb
   clear hv hb hbd
   by_cases hE : Lib.itoa v = keyT s
   · have hst := streq_true (itoa_eq hE)
     have HN := hid (HQ.out.symm.trans (HV.out.1 hE))
     clear hE
     generalize ofT (Lib.itoa v) = z at *
     go_wp2_with fail
     refine HI.out.mono ?_
     rintro e w2 ⟨rfl, hb2⟩
     have HB2 := hid hb2
     clear hb2
     go_wp2
     go_ret2
     refine ⟨⟨v, by rw [HN.out]; rfl, fun u hu => ?_⟩, below_deep HB.out HB2.out⟩
     rw [HN.out] at hu; exact Option.some.inj hu
   · have hst := streq_false (itoa_ne hE)
     have HN := hid (HQ.out.symm.trans (HV.out.2 hE))
     clear hE
     generalize ofT (Lib.itoa v) = z at *
     go_wp2_with fail
     refine HI.out.mono ?_
     rintro e w2 ⟨rfl, hb2⟩
     have HB2 := hid hb2
     clear hb2
     go_wp2
     go_ret2
     refine ⟨⟨v, by rw [HN.out]; rfl, fun u hu => ?_⟩, below_deep HB.out HB2.out⟩
     rw [HN.out] at hu; cases hu
 · have HN := hid (HQ.out.symm.trans (told_no hv))
   have HB := hid hb
   clear hv hb
   go_wp2
   go_ret2
   refine ⟨⟨v, by rw [HN.out]; rfl, fun u hu => ?_⟩, HB.out⟩
   rw [HN.out] at hu; cases hu

def wordsL : List ByteArray := [⟨#[]⟩, ⟨#[108, 111, 97, 100]⟩, ⟨#[99, 111, 110, 115, 116]⟩, ⟨#[97, 100, 100]⟩, ⟨#[115, 117, 98]⟩, ⟨#[109, 117, 108]⟩, ⟨#[115, 116, 111, 114, 101]⟩, ⟨#[100, 114, 111, 112]⟩, ⟨#[115, 107, 105, 112]⟩, ⟨#[102, 97, 105, 108]⟩]
theorem wordsL_at {k : Nat} (h : k < 10) : wordsL.getD k default = ofT (word k) := by
 have : k = 0 ∨ k = 1 ∨ k = 2 ∨ k = 3 ∨ k = 4 ∨ k = 5 ∨ k = 6 ∨ k = 7 ∨ k = 8 ∨ k = 9 := by omega
 rcases this with rfl | rfl | rfl | rfl | rfl | rfl | rfl | rfl | rfl | rfl <;> rfl
theorem words_calls (w : World) : Calls Tryz.prog 60 #[] w fun e w' => e = .returned (.slice (some ⟨w.heap.size, 0, none⟩) 10 10) ∧ Pieces w w' wordsL := by
 go_enter Tryz.func60, Tryz.ntmps60
 go_wp2
 go_ret
 exact ⟨rfl, ⟨rfl⟩⟩
theorem word_cell {w w' : World} (h : Pieces w w' wordsL) {k : Nat} (hk : k < 10) : w'.cell? ⟨w.heap.size, k, none⟩ = some (.string (ofT (word k))) := by
 have := pieces_cell h (j := k) hk
 rwa [wordsL_at hk] at this
theorem no_results (tmps : Array Value) (b : Nat) (w : World) {e : Int} (h2 : tmps.getD 2 undef = .pointer (some ⟨b, 0, none⟩)) (h3 : tmps.getD 3 undef = .int .i64 e) (h : w.cell? ⟨b, 0, none⟩ = some (.slice none 0 0) ∧ w.cell? ⟨b, 1, none⟩ = some (.slice none 0 0) ∧ w.cell? ⟨b, 2, none⟩ = some (.slice none 0 0)) :
   (results Tryz.f58 tmps).run Tryz.prog w = .ok (.tuple #[.agg #[.slice none 0 0, .slice none 0 0, .slice none 0 0], .int .i64 e]) w := by
 have h2' : tmps[2]?.getD undef = .pointer (some ⟨b, 0, none⟩) := by simpa using h2
 have h3' : tmps[3]?.getD undef = .int .i64 e := by simpa using h3
 simp [results, Tryz.results58, go_sem, h2', h3', h.1, h.2.1, h.2.2]
theorem refNo_calls (e : Int) (w : World) : Calls Tryz.prog 58 #[.int .i64 e] w fun x w' => x = .returned (.tuple #[.agg #[.slice none 0 0, .slice none 0 0, .slice none 0 0], .int .i64 e]) ∧ Below w.heap.size w w' := by
 go_enter Tryz.func58, Tryz.ntmps58
 go_wp2
 refine bodyPost_ret (no_results _ w.heap.size _ rfl rfl ⟨box_cell _ _ _ _ _ rfl, box_cell _ _ _ _ _ rfl, box_cell _ _ _ _ _ rfl⟩) rfl ?_
 exact ⟨rfl, grew _ _⟩
end Go.Proofs.YtlhaeeenkgkdaaaGreatDoor

namespace Go.Proofs.YtlhaeeenkgkdaaaGreatDoor
open Go.Lib

def placeOf (c : UInt8) : T := if c = 114 then pA else if c = 115 then pB else if c = 110 then pN else pK
theorem places_form {k : Nat} (h1 : 1 ≤ k) (h9 : k ≤ 9) : placesT k = word k :: (keyT (form k)).map placeOf := by
 have : k = 1 ∨ k = 2 ∨ k = 3 ∨ k = 4 ∨ k = 5 ∨ k = 6 ∨ k = 7 ∨ k = 8 ∨ k = 9 := by omega
 rcases this with rfl | rfl | rfl | rfl | rfl | rfl | rfl | rfl | rfl <;> decide
theorem form_letters {k : Nat} (h1 : 1 ≤ k) (h9 : k ≤ 9) : (keyT (form k)).length ≤ 2 ∧ ∀ c ∈ keyT (form k), c = 114 ∨ c = 115 ∨ c = 110 ∨ c = 107 := by
 have : k = 1 ∨ k = 2 ∨ k = 3 ∨ k = 4 ∨ k = 5 ∨ k = 6 ∨ k = 7 ∨ k = 8 ∨ k = 9 := by omega
 rcases this with rfl | rfl | rfl | rfl | rfl | rfl | rfl | rfl | rfl <;> decide
theorem fill_form {k : Nat} (h1 : 1 ≤ k) (h9 : k ≤ 9) (h : T) (r : List T) : fillR k (h :: r) = if r.length ≠ (keyT (form k)).length then ((2 : Int), ins00) else match fillG ((keyT (form k)).map placeOf) r (ins0 k) with
   | some i => (0, i)
   | none => (2, ins00) := by
 unfold fillR
 rw [places_form h1 h9, fillG, fillStep_word]
 simp only [List.length_cons, List.length_map, Option.bind_some]
 by_cases e : r.length = (keyT (form k)).length
 · rw [if_neg (fun x => x (by rw [e])), if_neg (fun x => x e)]; rfl
 · rw [if_pos (fun x => e (by omega)), if_pos e]; rfl
theorem step_k (w : T) (i : Ins) : fillStep (placeOf 107) w i = some (i.kind, i.a, i.b, i.n, ofT w) := rfl
theorem step_n (w : T) (i : Ins) : fillStep (placeOf 110) w i = (numOf w).map fun x => (i.kind, i.a, i.b, x, i.key) := rfl
theorem step_r (w : T) (i : Ins) : fillStep (placeOf 114) w i = (regOf w).map fun x => (i.kind, x, i.b, i.n, i.key) := rfl
theorem step_s (w : T) (i : Ins) : fillStep (placeOf 115) w i = (regOf w).map fun x => (i.kind, i.a, x, i.n, i.key) := rfl
def kindTo (h : T) (j : Nat) : Nat := if kindOf h < j then kindOf h else 0
theorem kindTo_end (h : T) : kindTo h 10 = kindOf h := by
 unfold kindTo
 rcases kindOf_cases h with h0 | ⟨_, h2, _⟩
 · rw [h0]; rfl
 · rw [if_pos (by omega)]
theorem kindTo_hit {h : T} {j : Nat} (h1 : 1 ≤ j) (h9 : j ≤ 9) (e : h = word j) : kindTo h (j + 1) = j := by
 unfold kindTo; rw [e, kindOf_word j h1 h9, if_pos (by omega)]
theorem kindTo_miss {h : T} {j : Nat} (e : j = 0 ∨ h ≠ word j) : kindTo h (j + 1) = kindTo h j := by
 unfold kindTo
 by_cases hk : kindOf h = j
 · rcases kindOf_cases h with h0 | ⟨h1, _, h3⟩
   · rw [h0]; split <;> split <;> rfl
   · rcases e with rfl | e
     · omega
     · rw [hk] at h3; exact absurd h3 e
 · by_cases hl : kindOf h < j
   · rw [if_pos hl, if_pos (by omega)]
   · rw [if_neg hl, if_neg (by omega)]
end Go.Proofs.YtlhaeeenkgkdaaaGreatDoor

namespace Go.Proofs.YtlhaeeenkgkdaaaGreatDoor
open Go.RowKit

theorem readT_long {s : T} (h : 400 < s.length) : readT s = (4, [], [], []) := by unfold readT; rw [if_pos h]
theorem readT_few {s : T} (h : s.length ≤ 400) (h2 : (spl2 [] s).length < 2) : readT s = (8, [], [], []) := by
 unfold readT; rw [if_neg (by omega)]
 cases e : spl2 [] s with
 | nil => rfl
 | cons p l =>
   cases l with
   | nil => rfl
   | cons p1 ps => rw [e] at h2; simp only [List.length_cons] at h2; omega
theorem read_core (a b : T) (R W : List ByteArray) (r : Int × List Ins) {P Q : Int × List ByteArray × List ByteArray × List Ins}
   (hP : P = if a = wReads ∧ b = wWrites then (if r.1 = 0 then (0, R, W, r.2) else (r.1, [], [], [])) else (2, [], [], []))
   (hQ : Q = if a ≠ wReads then (2, [], [], []) else if b ≠ wWrites then (2, [], [], []) else match r with
     | (0, C) => if wDeed R W C = 0 then (0, R, W, C) else (wDeed R W C, [], [], [])
     | (e, _) => (e, [], [], [])) :
   (P.1 ≠ 0 → Q = (P.1, [], [], []) ∧ P.2 = ([], [], [])) ∧ (P.1 = 0 → (wDeed P.2.1 P.2.2.1 P.2.2.2 = 0 → Q = P) ∧ (wDeed P.2.1 P.2.2.1 P.2.2.2 ≠ 0 → Q = (wDeed P.2.1 P.2.2.1 P.2.2.2, [], [], []))) := by
 by_cases h0 : a = wReads
 · by_cases h1 : b = wWrites
   · rcases r with ⟨ec, C⟩
     rw [if_pos ⟨h0, h1⟩] at hP
     rw [if_neg (fun x => x h0), if_neg (fun x => x h1)] at hQ
     by_cases hc : ec = 0
     · subst hc
       rw [if_pos rfl] at hP
       subst hP hQ
       refine ⟨fun x => absurd rfl x, fun _ => ⟨fun x => ?_, fun x => ?_⟩⟩
       · exact if_pos x
       · exact if_neg x
     · rw [if_neg hc] at hP
       subst hP hQ
       refine ⟨fun _ => ⟨?_, rfl⟩, fun x => absurd x hc⟩
       split
       · rename_i C' e; exact absurd (congrArg Prod.fst e) hc
       · rename_i e' C' _ e; cases e; rfl
   · rw [if_neg (fun x => h1 x.2)] at hP
     rw [if_neg (fun x => x h0), if_pos h1] at hQ
     subst hP hQ
     exact ⟨fun _ => ⟨rfl, rfl⟩, fun x => absurd x (by decide)⟩
 · rw [if_neg (fun x => h0 x.1)] at hP
   rw [if_pos h0] at hQ
   subst hP hQ
   exact ⟨fun _ => ⟨rfl, rfl⟩, fun x => absurd x (by decide)⟩
theorem readT_parts {s : T} (h : s.length ≤ 400) (h2 : 2 ≤ (spl2 [] s).length) :
   ((readP (spl2 [] s)).1 ≠ 0 → readT s = ((readP (spl2 [] s)).1, [], [], []) ∧ (readP (spl2 [] s)).2 = ([], [], [])) ∧
   ((readP (spl2 [] s)).1 = 0 → (wDeed (readP (spl2 [] s)).2.1 (readP (spl2 [] s)).2.2.1 (readP (spl2 [] s)).2.2.2 = 0 → readT s = readP (spl2 [] s)) ∧
     (wDeed (readP (spl2 [] s)).2.1 (readP (spl2 [] s)).2.2.1 (readP (spl2 [] s)).2.2.2 ≠ 0 → readT s = (wDeed (readP (spl2 [] s)).2.1 (readP (spl2 [] s)).2.2.1 (readP (spl2 [] s)).2.2.2, [], [], []))) := by
 cases e : spl2 [] s with
 | nil => rw [e] at h2; simp at h2
 | cons p0 l =>
   cases l with
   | nil => rw [e] at h2; simp at h2
   | cons p1 ps =>
     refine read_core ((spl1 [] p0).headD []) ((spl1 [] p1).headD []) (((spl1 [] p0).drop 1).map ofT) (((spl1 [] p1).drop 1).map ofT) (readCode ps) rfl ?_
     unfold readT; rw [if_neg (by omega), e]
     rfl
theorem small_words {p : T} (h : p.length ≤ 400) : SmallT (((spl1 [] p).drop 1).map ofT) := by
 intro x hx
 obtain ⟨y, hy, rfl⟩ := List.mem_map.1 hx
 have := spl1_small p [] y (List.mem_of_mem_drop hy)
 rw [ofT_size]
 unfold maxLen
 simp at this; omega
theorem readP_small {s : T} (h : s.length ≤ 400) : SmallT (readP (spl2 [] s)).2.1 ∧ SmallT (readP (spl2 [] s)).2.2.1 := by
 have hp : ∀ j, ((spl2 [] s).getD j []).length ≤ 400 := fun j => by
   by_cases hj : j < (spl2 [] s).length
   · have := spl2_small s [] ((spl2 [] s).getD j []) (by simp [List.getD, hj])
     rw [List.length_nil, Nat.zero_add] at this; omega
   · simp [List.getD, hj]
 have h0 := small_words (hp 0)
 have h1 := small_words (hp 1)
 have hn : SmallT [] := fun _ h => by cases h
 unfold readP
 split
 · split
   · exact ⟨h0, h1⟩
   · exact ⟨hn, hn⟩
 · exact ⟨hn, hn⟩

theorem told_none {w w' : World} {q : Int × List ByteArray × List ByteArray × List Ins} {e : Int} (h : q = (e, [], [], [])) (hb : Below w.heap.size w w') : PartsTold w q (.returned (.tuple #[.agg #[.slice none 0 0, .slice none 0 0, .slice none 0 0], .int .i64 e])) w' :=
 ⟨none, 0, 0, none, 0, 0, none, 0, 0, by rw [h], by rw [h]; exact deed_none _, hb, fresh_none _, fresh_none _, fresh_none _⟩

end Go.Proofs.YtlhaeeenkgkdaaaGreatDoor

namespace Go.Proofs.YtlhaeeenkgkdaaaGreatDoor
open Go.RowKit

def head0 (PT : List T) : T := (spl1 [] (PT.getD 0 [])).headD []
def head1 (PT : List T) : T := (spl1 [] (PT.getD 1 [])).headD []
def keys0 (PT : List T) : List ByteArray := ((spl1 [] (PT.getD 0 [])).drop 1).map ofT
def keys1 (PT : List T) : List ByteArray := ((spl1 [] (PT.getD 1 [])).drop 1).map ofT
theorem readP_bad {PT : List T} (h : head0 PT ≠ wReads ∨ head1 PT ≠ wWrites) : readP PT = (2, [], [], []) := by
 unfold readP
 rw [if_neg (fun x => h.elim (fun y => y x.1) (fun y => y x.2))]
theorem readP_code {PT : List T} (h0 : head0 PT = wReads) (h1 : head1 PT = wWrites) {e : Int} (he : e ≠ 0) (h : readCode (PT.drop 2) = (e, [])) : readP PT = (e, [], [], []) := by
 unfold readP
 rw [if_pos ⟨h0, h1⟩, h, if_neg he]
theorem readP_ok {PT : List T} (h0 : head0 PT = wReads) (h1 : head1 PT = wWrites) {C : List Ins} (h : readCode (PT.drop 2) = (0, C)) : readP PT = (0, keys0 PT, keys1 PT, C) := by
 unfold readP
 rw [if_pos ⟨h0, h1⟩, h, if_pos rfl]
 rfl

def Fix (B D r : Nat) (base : Option Addr) : Prop := ∀ a, base = some a → a.block < B ∧ a.block ≠ D ∧ r < a.block
theorem fix_none (B D r : Nat) : Fix B D r none := fun _ h => by cases h
theorem Fix.up {B B' D r : Nat} {base : Option Addr} (h : Fix B D r base) (hB : B ≤ B') : Fix B' D r base := fun a e => ⟨Nat.lt_of_lt_of_le (h a e).1 hB, (h a e).2⟩
structure RState (w wr : World) (D B : Nat) (PT : List T) (pb po pc n k : Nat) (rb : Option Addr) (rn rc : Nat) (wb : Option Addr) (wn wc : Nat) (v : Value) (C : List Ins) : Prop where
 bel : Below w.heap.size w wr
 parts : Texts wr (some ⟨pb, po, none⟩) n pc (PT.map ofT)
 res : DeedAt wr w.heap.size (.slice none 0 0) (.slice none 0 0) (.slice none 0 0)
 dd : DeedAt wr D (.slice rb rn rc) (.slice wb wn wc) v
 tr : Texts wr rb rn rc (if 1 ≤ k then keys0 PT else [])
 tw : Texts wr wb wn wc (if 2 ≤ k then keys1 PT else [])
 own : wr.ownsRow B 72 5 v (k - 2) (insCells C)
 len : C.length = k - 2
 sofar : readCode (PT.drop 2) = contC C (readCode ((PT.drop 2).drop (k - 2)))
 vn : k < 2 → v = .slice none 0 0
 g0 : 1 ≤ k → head0 PT = wReads
 g1 : 2 ≤ k → head1 PT = wWrites
 bd : D < B
 wd : w.heap.size < D
 bs : B ≤ wr.heap.size
 fp : Fix B D w.heap.size (some ⟨pb, po, none⟩)
 fr : Fix B D w.heap.size rb
 fw : Fix B D w.heap.size wb
theorem RState.below {w wr w2 : World} {D B : Nat} {PT : List T} {rb wb : Option Addr} {pb po pc n k rn rc wn wc : Nat} {v : Value} {C : List Ins} (h : RState w wr D B PT pb po pc n k rb rn rc wb wn wc v C) (hb : Below wr.heap.size wr w2) : RState w w2 D B PT pb po pc n k rb rn rc wb wn wc v C :=
 ⟨below_deep h.bel hb, h.parts.below (by decide) hb, h.res.below hb, h.dd.below hb, h.tr.below (by decide) hb, h.tw.below (by decide) hb, owns_below h.own hb, h.len, h.sofar, h.vn, h.g0, h.g1, h.bd, h.wd, Nat.le_trans h.bs hb.size, h.fp, h.fr, h.fw⟩
theorem fix_off {B D r : Nat} {base : Option Addr} (h : Fix B D r base) : ∀ a, base = some a → D ≠ a.block := fun a e => fun x => (h a e).2.1 x.symm
theorem len_nil {C : List Ins} (h : C.length = 0) : C = [] := List.eq_nil_of_length_eq_zero h
theorem set_size (w : World) (a : Addr) (v : Value) : (w.setCell a v).heap.size = w.heap.size := by simp [World.setCell]
theorem RState.set0 {w wr : World} {D B : Nat} {PT : List T} {rb wb : Option Addr} {pb po pc n rn rc wn wc : Nat} {v : Value} {C : List Ins} (h : RState w wr D B PT pb po pc n 0 rb rn rc wb wn wc v C) {base : Option Addr} {m c : Nat} (ht : Texts wr base m c (keys0 PT)) (hf : Fix wr.heap.size D w.heap.size base) (hh : head0 PT = wReads) :
   RState w (wr.setCell ⟨D, 0, none⟩ (.slice base m c)) D wr.heap.size PT pb po pc n 1 base m c wb wn wc v C := by
 have hv := h.vn (by decide)
 have hC := len_nil h.len
 subst hC hv
 refine ⟨h.bel.setCell (p := ⟨D, 0, none⟩) (Nat.le_of_lt h.wd) _, lies_off h.parts (fix_off h.fp) _, h.res.far (fun e => by have := h.wd; omega) _, h.dd.put0 _, lies_off ht (fix_off hf) _, lies_off h.tw (fix_off h.fw) _, World.ownsRow_nil _ _ _ _, rfl, h.sofar, fun _ => rfl, fun _ => hh, fun x => by omega, h.dd.lt, h.wd, by rw [set_size]; exact Nat.le_refl _, h.fp.up h.bs, hf, h.fw.up h.bs⟩
theorem RState.set1 {w wr : World} {D B : Nat} {PT : List T} {rb wb : Option Addr} {pb po pc n rn rc wn wc : Nat} {v : Value} {C : List Ins} (h : RState w wr D B PT pb po pc n 1 rb rn rc wb wn wc v C) {base : Option Addr} {m c : Nat} (ht : Texts wr base m c (keys1 PT)) (hf : Fix wr.heap.size D w.heap.size base) (hh : head1 PT = wWrites) :
   RState w (wr.setCell ⟨D, 1, none⟩ (.slice base m c)) D wr.heap.size PT pb po pc n 2 rb rn rc base m c v C := by
 have hv := h.vn (by decide)
 have hC := len_nil h.len
 subst hC hv
 refine ⟨h.bel.setCell (p := ⟨D, 1, none⟩) (Nat.le_of_lt h.wd) _, lies_off h.parts (fix_off h.fp) _, h.res.far (fun e => by have := h.wd; omega) _, h.dd.put1 _, lies_off h.tr (fix_off h.fr) _, lies_off ht (fix_off hf) _, World.ownsRow_nil _ _ _ _, rfl, h.sofar, fun x => by omega, fun _ => h.g0 (Nat.le_refl _), fun _ => hh, h.dd.lt, h.wd, by rw [set_size]; exact Nat.le_refl _, h.fp.up h.bs, h.fr.up h.bs, hf⟩
theorem RState.push {w wr w4 : World} {D B : Nat} {PT : List T} {rb wb : Option Addr} {pb po pc n k rn rc wn wc : Nat} {v : Value} {C : List Ins} (h : RState w wr D B PT pb po pc n k rb rn rc wb wn wc v C) (hk : 2 ≤ k) {i : Ins} {v' : Value}
   (hb : Below B wr w4) (ho : w4.ownsRow B 72 5 v' (k - 2 + 1) (insCells (C ++ [i]))) (hs : readCode (PT.drop 2) = contC (C ++ [i]) (readCode ((PT.drop 2).drop (k - 2 + 1)))) :
   RState w (w4.setCell ⟨D, 2, none⟩ v') D B PT pb po pc n (k + 1) rb rn rc wb wn wc v' (C ++ [i]) := by
 have hwd := h.wd
 have hbd := h.bd
 have lt : ∀ {base : Option Addr}, Fix B D w.heap.size base → ∀ a, base = some a → a.block < B := fun hf a e => (hf a e).1
 have e : k + 1 - 2 = k - 2 + 1 := by omega
 have tr' := lies_off (lies_under h.tr hb (lt h.fr)) (fix_off h.fr) (k := 2) v'
 have tw' := lies_off (lies_under h.tw hb (lt h.fw)) (fix_off h.fw) (k := 2) v'
 rw [if_pos (show 1 ≤ k by omega)] at tr'
 rw [if_pos hk] at tw'
 refine ⟨(h.bel.trans (hb.mono (by omega))).setCell (p := ⟨D, 2, none⟩) (Nat.le_of_lt hwd) _, lies_off (lies_under h.parts hb (lt h.fp)) (fix_off h.fp) _, (h.res.under hb (by omega)).far (by omega) _, (h.dd.under hb hbd).put2 _, ?_, ?_, ?_, ?_, ?_, fun x => by omega, fun _ => h.g0 (by omega), fun _ => h.g1 hk, hbd, hwd, ?_, h.fp, h.fr, h.fw⟩
 · rw [if_pos (by omega)]; exact tr'
 · rw [if_pos (by omega)]; exact tw'
 · rw [e]; exact owns_set ho hbd _
 · rw [List.length_append, h.len, e]; rfl
 · rw [e]; exact hs
 · rw [set_size]; exact Nat.le_trans h.bs hb.size
theorem tail_texts {w : World} {b o n c : Nat} {x : ByteArray} {l : List ByteArray} (h : Texts w (some ⟨b, o, none⟩) n c (x :: l)) : Texts w (some ⟨b, o + 1, none⟩) (n - 1) (c - 1) l := by
 have hn := Texts.count h
 have hc := h.hdr.le
 have hm := h.hdr.max
 simp only [List.length_cons] at hn
 refine ⟨by rw [strs_length]; omega, ⟨by omega, by omega, fun h => by cases h⟩, ?_⟩
 rcases h.run with h0 | ⟨b', o', e, hr⟩
 · omega
 · cases e
   refine .inr ⟨b, o + 1, rfl, fun j u hu => ?_⟩
   have := hr (j + 1) u (by simpa [strs] using hu)
   rwa [Nat.add_comm j 1, ← Nat.add_assoc] at this
theorem tail_none {w : World} {b o n c : Nat} {x : ByteArray} {l : List ByteArray} (h : Texts w (some ⟨b, o, none⟩) n c (x :: l)) (hc : c = 1) : l = [] ∧ n = 1 ∧ Texts w (some ⟨b, o, none⟩) 0 0 l := by
 have hn := Texts.count h
 have hle := h.hdr.le
 simp only [List.length_cons] at hn
 have hl : l = [] := List.eq_nil_of_length_eq_zero (by omega)
 subst hl
 exact ⟨rfl, by omega, rfl, ⟨Nat.le_refl _, Nat.zero_le _, fun h => by cases h⟩, .inl rfl⟩
end Go.Proofs.YtlhaeeenkgkdaaaGreatDoor
