/-
  The document's way from a text to a deed.
-/
import Derived.Test.YtlhaeeenkgkdaaaGreatDoorRefState
import Derived.Test.YtlhaeeenkgkdaaaGreatDoorRefWrong
namespace Go.Proofs.YtlhaeeenkgkdaaaGreatDoor
open Go.RowKit

theorem refParse_results (tmps : Array Value) (b : Nat) (w : World) {p q r : Option Addr} {n1 c1 n2 c2 n3 c3 : Nat} {e : Int} (h2 : tmps.getD 2 undef = .pointer (some ⟨b, 0, none⟩)) (h3 : tmps.getD 3 undef = .int .i64 e) (h : DeedAt w b (.slice p n1 c1) (.slice q n2 c2) (.slice r n3 c3)) :
   (results Tryz.f25 tmps).run Tryz.prog w = .ok (.tuple #[.agg #[.slice p n1 c1, .slice q n2 c2, .slice r n3 c3], .int .i64 e]) w := by
 have h2' : tmps[2]?.getD undef = .pointer (some ⟨b, 0, none⟩) := by simpa using h2
 have h3' : tmps[3]?.getD undef = .int .i64 e := by simpa using h3
 simp [results, Tryz.results25, go_sem, h2', h3', h.c0, h.c1, h.c2]

theorem at_letter {F : ByteArray} {j : Nat} (h : j < F.size) : (keyT F).drop j = F[j] :: (keyT F).drop (j + 1) := by
 have hl : j < (keyT F).length := by rw [keyT_len]; exact h
 rw [List.drop_eq_getElem_cons hl]; rfl
theorem letter_mem {F : ByteArray} {j : Nat} (h : j < F.size) : F[j] ∈ keyT F := by
 have hl : j < (keyT F).length := by rw [keyT_len]; exact h
 exact List.mem_of_mem_drop (i := j) (by rw [at_letter h]; exact List.mem_cons_self ..)
theorem fillL_next {F : ByteArray} {r : List T} {i0 i : Ins} {j : Nat} (h : fillG ((keyT F).map placeOf) r i0 = fillG (((keyT F).drop j).map placeOf) (r.drop j) i) (hF : j < F.size) (hr : j < r.length) :
   (∀ i', fillStep (placeOf F[j]) (r.getD j []) i = some i' → fillG ((keyT F).map placeOf) r i0 = fillG (((keyT F).drop (j + 1)).map placeOf) (r.drop (j + 1)) i') ∧ (fillStep (placeOf F[j]) (r.getD j []) i = none → fillG ((keyT F).map placeOf) r i0 = none) := by
 rw [at_letter hF, List.map_cons, drop_getD hr, fillG] at h
 exact ⟨fun i' e => by rw [h, e]; rfl, fun e => by rw [h, e]; rfl⟩
theorem fillL_end {F : ByteArray} {r : List T} {i0 i : Ins} {j : Nat} (h : fillG ((keyT F).map placeOf) r i0 = fillG (((keyT F).drop j).map placeOf) (r.drop j) i) (hr : r.length ≤ j) : fillG ((keyT F).map placeOf) r i0 = some i := by
 rw [h, List.drop_of_length_le hr]
 cases ((keyT F).drop j).map placeOf <;> rfl
theorem regOf_no {c : UInt8} (x : T) (h : c ≠ 114) : regOf (c :: x) = none := if_neg h
theorem regOf_yes (x : T) : regOf (114 :: x) = numOf x := by simp [regOf]
theorem rest_ofT (c : UInt8) (x : T) : (ofT (c :: x)).extract 1 (ofT (c :: x)).size = ofT x := by
 rw [extract_rest, keyT_ofT]; rfl
theorem first_ofT (c : UInt8) (x : T) (h : 0 < (ofT (c :: x)).size) : (ofT (c :: x))[0] = c := rfl

set_option maxRecDepth 100000 in
set_option maxHeartbeats 8000000 in
theorem refParse_calls (s : ByteArray) (w : World) (hG : GroundN w) (hs : s.size ≤ maxLen) :
   Calls Tryz.prog 25 #[.string s] w fun e w' => PartsTold w (readT (keyT s)) e w' := by
 have hlen := keyT_len s
 unfold maxLen at hs
 have HNO := hid refNo_calls
 by_cases h4 : 400 < s.size
 case pos =>
   have HQ := hid (readT_long (s := keyT s) (by omega))
   generalize readT (keyT s) = q at *
   have hd : decide ((s.size : Int) > 400) = true := by simpa using (by omega : (400 : Int) < s.size)
   have HA0 := hid (three_new w (.slice none 0 0) (.slice none 0 0) (.slice none 0 0) 44)
   go_enter Tryz.func25, Tryz.ntmps25
   go_wp2_with fail
   refine (HNO.out _ _).mono ?_
   rintro e w1 ⟨rfl, hb1⟩
   have HB1 := hid (below_deep (grew w _) hb1)
   have HA1 := hid (HA0.out.below hb1)
   obtain ⟨r0, r1, r2, rf⟩ := HA1.out
   have f0 := rf 0
   have f1 := rf 1
   have f2 := rf 2
   clear rf hb1
   go_wp2
   (try simp only [Exit.inBlock, Exit.then])
   refine bodyPost_ret (refParse_results _ w.heap.size _ rfl rfl (HA1.out.all (.slice none 0 0) (.slice none 0 0) (.slice none 0 0))) rfl ?_
   exact told_none HQ.out (below_three HB1.out (Nat.le_refl _) _ _ _)
 case neg =>
   have HS := hid (refSplit_calls cuts2 ⟨#[59, 32]⟩ s (w.alloc (.cells #[.slice none 0 0, .slice none 0 0, .slice none 0 0] 44)) rfl (by omega) (by decide))
   have HG := hid hG
   have HSM : Hid (∀ x ∈ spl2 [] (keyT s), x.length ≤ 400) := fun x hx => by
     have := spl2_small (keyT s) [] x hx
     simp at this; omega
   have HRS := hid (readP_small (s := keyT s) (by omega))
   have hle := spl2_len_le (keyT s) []
   have hd : decide ((s.size : Int) > 400) = false := by simpa using (by omega : (s.size : Int) ≤ 400)
   have HA0 := hid (three_new w (.slice none 0 0) (.slice none 0 0) (.slice none 0 0) 44)
   clear hG
   by_cases h2 : (spl2 [] (keyT s)).length < 2
   case pos =>
     have HQ := hid (readT_few (s := keyT s) (by omega) h2)
     generalize readT (keyT s) = q at *
     generalize spl2 [] (keyT s) = PT at *
     generalize PT.length = n at *
     have hd2 : decide ((n : Int) < 2) = true := by simpa using (by omega : (n : Int) < 2)
     go_enter Tryz.func25, Tryz.ntmps25
     go_wp2_with fail
     refine HS.out.mono ?_
     rintro e w1 ⟨pb, po, pc, rfl, _, hb1, _⟩
     have HB1 := hid (below_deep (grew w _) hb1)
     have HA1 := hid (HA0.out.below hb1)
     clear hb1
     go_wp2_with fail
     refine (HNO.out _ _).mono ?_
     rintro e w2 ⟨rfl, hb2⟩
     have HB2 := hid (below_deep HB1.out hb2)
     have HA2 := hid (HA1.out.below hb2)
     obtain ⟨r0, r1, r2, rf⟩ := HA2.out
     have f0 := rf 0
     have f1 := rf 1
     have f2 := rf 2
     clear rf hb2
     go_wp2
     (try simp only [Exit.inBlock, Exit.then])
     refine bodyPost_ret (refParse_results _ w.heap.size _ rfl rfl (HA2.out.all (.slice none 0 0) (.slice none 0 0) (.slice none 0 0))) rfl ?_
     exact told_none HQ.out (below_three HB2.out (Nat.le_refl _) _ _ _)
   case neg =>
     have HQ := hid (readT_parts (s := keyT s) (by omega) (by omega))
     generalize readT (keyT s) = q at *
     generalize spl2 [] (keyT s) = PT at *
     obtain ⟨n, hn⟩ : ∃ n, PT.length = n := ⟨_, rfl⟩
     rw [hn] at HS hle h2
     have HN := hid hn
     have hn2 : 2 ≤ n := by omega
     have hn4 : n ≤ 401 := by omega
     have hd2 : decide ((n : Int) < 2) = false := by simpa using (by omega : (2 : Int) ≤ (n : Int))
     clear hn h2 hle hlen hs h4
     go_enter Tryz.func25, Tryz.ntmps25
     go_wp2_with fail
     refine HS.out.mono ?_
     rintro e w1 ⟨pb, po, pc, rfl, ht, hb1, hpb⟩
     have HB1 := hid (below_deep (grew w _) hb1)
     have HA1 := hid (HA0.out.below hb1)
     have HT := hid ht
     have hpw : pb < w1.heap.size := by
       rcases ht.run with h | ⟨b', o', e, hr⟩
       · omega
       · cases e; exact hr.lt (by rw [strs_length, List.length_map, HN.out]; omega)
     rw [World.size_alloc] at hpb
     have HPB : Hid (w.heap.size < pb ∧ pb < w1.heap.size) := ⟨by omega, hpw⟩
     clear ht hb1 hpb hpw HS
     have HERR : Hid (∀ e : Int, e ≠ 0 → readP PT = (e, [], [], []) → q = (e, [], [], [])) := fun e he hp => by
       have := (HQ.out.1 (by rw [hp]; exact he)).1
       rw [this, hp]
     have HBD := hid (grew w1 (.cells #[.slice none 0 0, .slice none 0 0, .slice none 0 0] 44))
     have HLT1 : Hid (w.heap.size < w1.heap.size) := HA1.out.lt
     go_wp2
     go_loopw [38] (fun c wr => ∃ (k B : Nat) (rb : Option Addr) (rn rc : Nat) (wb : Option Addr) (wn wc : Nat) (v : Value) (C : List Ins), k ≤ n ∧ c = .int .i64 k ∧ Hid (RState w wr w1.heap.size B PT pb po pc n k rb rn rc wb wn wc v C)) (fun c _ => n - (intOf c).toNat)
     case atStart =>
       refine ⟨0, w1.heap.size + 1, none, 0, 0, none, 0, 0, .slice none 0 0, [], Nat.zero_le _, rfl, ?_⟩
       exact ⟨below_deep HB1.out HBD.out, HT.out.below (by decide) HBD.out, HA1.out.below HBD.out, three_new w1 _ _ _ _, Lies.none _ _, Lies.none _ _, World.ownsRow_nil _ _ _ _, rfl, (contC_nil _ (readCode_nil _)).symm, fun _ => rfl, fun x => by omega, fun x => by omega, Nat.lt_succ_self _, HLT1.out, by rw [World.size_alloc]; exact Nat.le_refl _, (fun a e => by cases e; have := HPB.out; exact ⟨Nat.lt_succ_of_lt this.2, Nat.ne_of_lt this.2, this.1⟩), fix_none _ _ _, fix_none _ _ _⟩
     case round =>
       obtain ⟨k, B, rb, rn, rc, wb, wn, wc, v, C, hk, rfl, HL⟩ := hrel
       by_cases hlt : k < n
       case neg =>
         obtain rfl : k = n := by omega
         have HCE := hid (code_end HL.out.sofar (by rw [List.length_drop, HN.out]; exact Nat.le_refl _))
         have HRP := hid (readP_ok (HL.out.g0 (by omega)) (HL.out.g1 (by omega)) HCE.out)
         rw [HRP.out] at HRS HQ
         simp only at HRS HQ
         have HQ2 := hid (HQ.out.2 (trivial))
         obtain ⟨cb, cc, rfl, hcl⟩ := Lies.owned HL.out.own
         have HTR := HL.out.tr
         have HTW := HL.out.tw
         rw [if_pos (show 1 ≤ k by omega)] at HTR
         rw [if_pos (show 2 ≤ k by omega)] at HTW
         have HDI : Hid (DeedIn wr rb rn rc wb wn wc cb (k - 2) cc (keys0 PT) (keys1 PT) C) := ⟨HTR, HTW, hcl⟩
         have HWR := hid (refWrongDeed_calls (keys0 PT) (keys1 PT) C rb rn rc wb wn wc cb (k - 2) cc wr HDI.out HRS.out.1 HRS.out.2)
         have HFC : Hid (Fix wr.heap.size w1.heap.size w.heap.size cb) := fun a e => by
           have h1 := HL.out.own.lt a.block (by rw [e]; rfl)
           have h2 := HL.out.bd
           have h3 := HL.out.wd
           exact ⟨h1.2, by omega, by omega⟩
         obtain ⟨d0, d1, d2, _⟩ := HL.out.dd
         clear HTR HTW hcl
         generalize wDeed (keys0 PT) (keys1 PT) C = wd at *
         go_wp2_with fail
         refine HWR.out.mono ?_
         rintro e w2 ⟨rfl, hb2⟩
         have HS2 := hid (HL.out.below hb2)
         have HDI2 := hid (HDI.out.below hb2)
         have HBEL := hid HS2.out.bel
         have HRES := hid HS2.out.res
         clear hb2 d0 d1 d2
         by_cases hwd : wd = 0
         case neg =>
           have HEQ := hid (HQ2.out.2 hwd)
           have hd4 : (wd != 0) = true := by simpa using hwd
           clear hwd
           go_wp2_with fail
           refine (HNO.out _ _).mono ?_
           rintro e wn ⟨rfl, hbn⟩
           have HBN := hid (below_deep HBEL.out hbn)
           have HAN := hid (HRES.out.below hbn)
           obtain ⟨r0, r1, r2, rf⟩ := HAN.out
           have f0 := rf 0
           have f1 := rf 1
           have f2 := rf 2
           clear rf hbn
           go_wp2
           (try simp only [Exit.inBlock, Exit.then])
           refine bodyPost_ret (refParse_results _ w.heap.size _ rfl rfl (HAN.out.all (.slice none 0 0) (.slice none 0 0) (.slice none 0 0))) rfl ?_
           exact told_none HEQ.out (below_three HBN.out (Nat.le_refl _) _ _ _)
         case pos =>
           subst hwd
           have HEQ := hid (HQ2.out.1 rfl)
           obtain ⟨x0, x1, x2, _⟩ := HS2.out.dd
           obtain ⟨r0, r1, r2, rf⟩ := HRES.out
           have f0 := rf 0
           have f1 := rf 1
           have f2 := rf 2
           clear rf
           have HY := hid (HRES.out.all (.slice rb rn rc) (.slice wb wn wc) (.slice cb (k - 2) cc))
           go_wp2
           (try simp only [Exit.inBlock, Exit.then])
           refine bodyPost_ret (refParse_results _ w.heap.size _ rfl rfl HY.out) rfl ?_
           have off : ∀ {B : Nat} {base : Option Addr}, Fix B w1.heap.size w.heap.size base → (∀ a, base = some a → w.heap.size ≠ a.block) ∧ Fresh w.heap.size base := fun hf => ⟨fun a e => Nat.ne_of_lt (hf a e).2.2, fun a e => Nat.le_of_lt (hf a e).2.2⟩
           refine ⟨rb, rn, rc, wb, wn, wc, cb, k - 2, cc, by rw [HEQ.out], ?_, below_three HBEL.out (Nat.le_refl _) _ _ _, (off HS2.out.fr).2, (off HS2.out.fw).2, (off HFC.out).2⟩
           rw [HEQ.out]
           exact ⟨lies_offThree HDI2.out.tr (off HS2.out.fr).1 _ _ _, lies_offThree HDI2.out.tw (off HS2.out.fw).1 _ _ _, lies_offThree HDI2.out.cd (off HFC.out).1 _ _ _⟩
       case pos =>
         have hkl : k < PT.length := by have := HN.out; omega
         have hrun : Run wr pb po (strs (PT.map ofT)) := by
           rcases HL.out.parts.run with h | ⟨b', o', e, hr⟩
           · omega
           · cases e; exact hr
         have cp := hrun k _ (strs_at (by rw [List.length_map]; exact hkl))
         rw [getD_map_ofT hkl] at cp
         have hpz : (PT.getD k []).length ≤ 400 := HSM.out _ (by simp [List.getD, hkl])
         have hi : (k : Int) < (n : Int) := by omega
         obtain ⟨p, hp⟩ : ∃ p, p = PT.getD k [] := ⟨_, rfl⟩
         rw [← hp] at cp hpz
         have HS2 := hid (refSplit_calls cuts1 ⟨#[32]⟩ (ofT p) wr rfl (by rw [ofT_size]; omega) (by decide))
         rw [keyT_ofT] at HS2
         obtain ⟨h, r, hL⟩ : ∃ h r, spl1 [] p = h :: r := by
           cases hL : spl1 [] p with
           | nil => exact absurd hL (spl1_ne _ _)
           | cons h r => exact ⟨h, r, rfl⟩
         have hrl : r.length ≤ 400 := by
           have := spl1_len_le p []
           rw [hL] at this; simp at this; omega
         have HRW : Hid (∀ x ∈ r, x.length ≤ 400) := fun x hx => by
           have := spl1_small p [] x (by rw [hL]; exact List.mem_cons_of_mem _ hx)
           simp at this; omega
         rw [hL] at HS2
         simp only [List.length_cons, List.map_cons] at HS2
         rw [hp] at hL
         clear hp hrun hkl
         generalize ofT p = P at *
         go_wp2_with fail
         refine HS2.out.mono ?_
         rintro e w2 ⟨lb, lo, lc, rfl, ht2, hb2, hlb⟩
         have cl : w2.cell? ⟨lb, lo, none⟩ = some (.string (ofT h)) := by
           rcases ht2.run with h | ⟨b', o', e, hr⟩
           · omega
           · cases e; exact hr 0 _ rfl
         have hlbw : lb < w2.heap.size := World.block_lt_of_cell? _ _ cl
         clear HS2 cp
         by_cases hk2 : k < 2
         case pos =>
           by_cases hk0 : k = 0
           case pos =>
             obtain rfl : k = 0 := by omega
             have HST := hid (HL.out.below hb2)
             have hst : ((ofT h).toList == [114, 101, 97, 100, 115]) = decide (h = wReads) := text_eq h [114, 101, 97, 100, 115]
             have HHD : Hid (head0 PT = h) := by show _ = _; unfold head0; rw [hL]; rfl
             have HKS : Hid (keys0 PT = r.map ofT) := by show _ = _; unfold keys0; rw [hL]; rfl
             have HT2 := hid ht2
             by_cases hh : h = wReads
             case neg =>
               have HEQ := hid (HERR.out 2 (by decide) (readP_bad (.inl (by rw [HHD.out]; exact hh))))
               rw [decide_eq_false hh] at hst
               clear hh
               have HSW : Hid (Below w2.heap.size w2 (w2.alloc (.cells #[.string ⟨#[114, 101, 97, 100, 115]⟩, .string ⟨#[119, 114, 105, 116, 101, 115]⟩] 9)).drew) := (grew _ _).drew
               clear hb2 ht2 hL
               generalize ofT h = H at *
               go_wp2
               go_region
               generalize (w2.alloc (.cells #[.string ⟨#[114, 101, 97, 100, 115]⟩, .string ⟨#[119, 114, 105, 116, 101, 115]⟩] 9)).drew = wz at *
               have HSZ := hid (HST.out.below HSW.out)
               have HBEL := hid HSZ.out.bel
               have HRES := hid HSZ.out.res
               go_wp2_with fail
               refine (HNO.out _ _).mono ?_
               rintro e wn ⟨rfl, hbn⟩
               have HBN := hid (below_deep HBEL.out hbn)
               have HAN := hid (HRES.out.below hbn)
               obtain ⟨r0, r1, r2, rf⟩ := HAN.out
               have f0 := rf 0
               have f1 := rf 1
               have f2 := rf 2
               clear rf hbn
               go_wp2
               (try simp only [Exit.inBlock, Exit.then])
               refine bodyPost_ret (refParse_results _ w.heap.size _ rfl rfl (HAN.out.all (.slice none 0 0) (.slice none 0 0) (.slice none 0 0))) rfl ?_
               exact told_none HEQ.out (below_three HBN.out (Nat.le_refl _) _ _ _)
             case pos =>
               rw [decide_eq_true hh] at hst
               have HHW : Hid (head0 PT = wReads) := by show _ = _; rw [HHD.out, hh]
               have HLB : Hid (wr.heap.size ≤ lb) := hlb
               have hlcm := HT2.out.hdr.le
               have hlcx := HT2.out.hdr.max
               unfold maxLen at hlcx
               clear hh
               have HSW : Hid (Below w2.heap.size w2 (w2.alloc (.cells #[.string ⟨#[114, 101, 97, 100, 115]⟩, .string ⟨#[119, 114, 105, 116, 101, 115]⟩] 9)).drew) := (grew _ _).drew
               clear hb2 ht2 hL
               generalize ofT h = H at *
               go_wp2
               go_region
               generalize (w2.alloc (.cells #[.string ⟨#[114, 101, 97, 100, 115]⟩, .string ⟨#[119, 114, 105, 116, 101, 115]⟩] 9)).drew = wz at *
               have HSZ := hid (HST.out.below HSW.out)
               have HTZ := hid (HT2.out.below (by decide) HSW.out)
               have d0 := HSZ.out.dd.c0
               have df := HSZ.out.dd.free 0
               have HFX : Hid (∀ o, Fix wz.heap.size w1.heap.size w.heap.size (some ⟨lb, o, none⟩)) := fun o a e => by
                 cases e
                 have h1 := HL.out.bd
                 have h2 := HL.out.bs
                 have h3 := HL.out.wd
                 have h4 := HSW.out.size
                 have h5 := HLB.out
                 exact ⟨by show lb < _; omega, by show lb ≠ _; omega, by show _ < lb; omega⟩
               by_cases hc1 : lc = 1
               case pos =>
                 obtain ⟨hr0, _, htn⟩ := tail_none HTZ.out hc1
                 have hrl0 : r.length = 0 := by
                   have := congrArg List.length hr0
                   simpa using this
                 have HNX := hid (HSZ.out.set0 (base := some ⟨lb, lo, none⟩) (m := 0) (c := 0) (by rw [HKS.out]; exact htn) (HFX.out _) HHW.out)
                 subst hc1
                 clear htn hr0
                 go_wp2
                 go_roundw
                 case rel => exact ⟨0 + 1, _, _, _, _, _, _, _, _, _, by omega, by go_num, HNX.out⟩
                 case measure => simp [intOf]; omega
               case neg =>
                 have htn := tail_texts HTZ.out
                 have HNX := hid (HSZ.out.set0 (base := some ⟨lb, lo + 1, none⟩) (m := r.length) (c := lc - 1) (by rw [HKS.out]; exact htn) (HFX.out _) HHW.out)
                 clear htn
                 go_wp2
                 go_roundw
                 case rel => exact ⟨0 + 1, _, _, _, _, _, _, _, _, _, by omega, by go_num, HNX.out⟩
                 case measure => simp [intOf]; omega
           case neg =>
             obtain rfl : k = 1 := by omega
             have HST := hid (HL.out.below hb2)
             have hst : ((ofT h).toList == [119, 114, 105, 116, 101, 115]) = decide (h = wWrites) := text_eq h [119, 114, 105, 116, 101, 115]
             have HHD : Hid (head1 PT = h) := by show _ = _; unfold head1; rw [hL]; rfl
             have HKS : Hid (keys1 PT = r.map ofT) := by show _ = _; unfold keys1; rw [hL]; rfl
             have HT2 := hid ht2
             by_cases hh : h = wWrites
             case neg =>
               have HEQ := hid (HERR.out 2 (by decide) (readP_bad (.inr (by rw [HHD.out]; exact hh))))
               rw [decide_eq_false hh] at hst
               clear hh
               have HSW : Hid (Below w2.heap.size w2 (w2.alloc (.cells #[.string ⟨#[114, 101, 97, 100, 115]⟩, .string ⟨#[119, 114, 105, 116, 101, 115]⟩] 9)).drew) := (grew _ _).drew
               clear hb2 ht2 hL
               generalize ofT h = H at *
               go_wp2
               go_region
               generalize (w2.alloc (.cells #[.string ⟨#[114, 101, 97, 100, 115]⟩, .string ⟨#[119, 114, 105, 116, 101, 115]⟩] 9)).drew = wz at *
               have HSZ := hid (HST.out.below HSW.out)
               have HBEL := hid HSZ.out.bel
               have HRES := hid HSZ.out.res
               go_wp2_with fail
               refine (HNO.out _ _).mono ?_
               rintro e wn ⟨rfl, hbn⟩
               have HBN := hid (below_deep HBEL.out hbn)
               have HAN := hid (HRES.out.below hbn)
               obtain ⟨r0, r1, r2, rf⟩ := HAN.out
               have f0 := rf 0
               have f1 := rf 1
               have f2 := rf 2
               clear rf hbn
               go_wp2
               (try simp only [Exit.inBlock, Exit.then])
               refine bodyPost_ret (refParse_results _ w.heap.size _ rfl rfl (HAN.out.all (.slice none 0 0) (.slice none 0 0) (.slice none 0 0))) rfl ?_
               exact told_none HEQ.out (below_three HBN.out (Nat.le_refl _) _ _ _)
             case pos =>
               rw [decide_eq_true hh] at hst
               have HHW : Hid (head1 PT = wWrites) := by show _ = _; rw [HHD.out, hh]
               have HLB : Hid (wr.heap.size ≤ lb) := hlb
               have hlcm := HT2.out.hdr.le
               have hlcx := HT2.out.hdr.max
               unfold maxLen at hlcx
               clear hh
               have HSW : Hid (Below w2.heap.size w2 (w2.alloc (.cells #[.string ⟨#[114, 101, 97, 100, 115]⟩, .string ⟨#[119, 114, 105, 116, 101, 115]⟩] 9)).drew) := (grew _ _).drew
               clear hb2 ht2 hL
               generalize ofT h = H at *
               go_wp2
               go_region
               generalize (w2.alloc (.cells #[.string ⟨#[114, 101, 97, 100, 115]⟩, .string ⟨#[119, 114, 105, 116, 101, 115]⟩] 9)).drew = wz at *
               have HSZ := hid (HST.out.below HSW.out)
               have HTZ := hid (HT2.out.below (by decide) HSW.out)
               have d0 := HSZ.out.dd.c1
               have df := HSZ.out.dd.free 1
               have HFX : Hid (∀ o, Fix wz.heap.size w1.heap.size w.heap.size (some ⟨lb, o, none⟩)) := fun o a e => by
                 cases e
                 have h1 := HL.out.bd
                 have h2 := HL.out.bs
                 have h3 := HL.out.wd
                 have h4 := HSW.out.size
                 have h5 := HLB.out
                 exact ⟨by show lb < _; omega, by show lb ≠ _; omega, by show _ < lb; omega⟩
               by_cases hc1 : lc = 1
               case pos =>
                 obtain ⟨hr0, _, htn⟩ := tail_none HTZ.out hc1
                 have hrl0 : r.length = 0 := by
                   have := congrArg List.length hr0
                   simpa using this
                 have HNX := hid (HSZ.out.set1 (base := some ⟨lb, lo, none⟩) (m := 0) (c := 0) (by rw [HKS.out]; exact htn) (HFX.out _) HHW.out)
                 subst hc1
                 clear htn hr0
                 go_wp2
                 go_roundw
                 case rel => exact ⟨1 + 1, _, _, _, _, _, _, _, _, _, by omega, by go_num, HNX.out⟩
                 case measure => simp [intOf]; omega
               case neg =>
                 have htn := tail_texts HTZ.out
                 have HNX := hid (HSZ.out.set1 (base := some ⟨lb, lo + 1, none⟩) (m := r.length) (c := lc - 1) (by rw [HKS.out]; exact htn) (HFX.out _) HHW.out)
                 clear htn
                 go_wp2
                 go_roundw
                 case rel => exact ⟨1 + 1, _, _, _, _, _, _, _, _, _, by omega, by go_num, HNX.out⟩
                 case measure => simp [intOf]; omega
         case neg =>
           have hk2' : 2 ≤ k := by omega
           have HKG : Hid (2 ≤ k) := hk2'
           have hd0 : decide ((k : Int) < 2) = false := by simpa using (by omega : (2 : Int) ≤ (k : Int))
           have HST := hid (HL.out.below hb2)
           have HT2 := hid ht2
           have e2 : (PT.drop 2).getD (k - 2) [] = PT.getD k [] := by
             simp only [List.getD, List.getElem?_drop]
             rw [show 2 + (k - 2) = k by omega]
           have HNXT := hid (code_next HL.out.sofar (by rw [List.length_drop, HN.out]; omega))
           rw [e2, hL] at HNXT
           have HBAD : Hid (∀ e : Int, e ≠ 0 → (readIns (h :: r)).1 = e → q = (e, [], [], [])) := fun e he h1 => by
             subst h1
             exact HERR.out _ he (readP_code (HL.out.g0 (by omega)) (HL.out.g1 hk2') he (HNXT.out.2 he))
           have HLB : Hid (wr.heap.size ≤ lb ∧ lb < w2.heap.size) := ⟨hlb, hlbw⟩
           have HBW := hid hb2
           have HCL := hid cl
           clear e2 hb2 ht2 hL hk2 hk2' cl
           generalize wr = wa at *
           go_wp2_with fail
           refine (words_calls _).mono ?_
           rintro e w3 ⟨rfl, hp3⟩
           have HB3 := hid (below_deep (grew w2 _) hp3.below)
           have HI3 := hid ((five_new w2 ins00 72).below hp3.below)
           have HW3 : Hid (∀ i, i < 10 → w3.cell? ⟨w2.heap.size + 1, i, none⟩ = some (.string (ofT (word i)))) := fun i hi => by
             have := word_cell hp3 hi
             rwa [World.size_alloc] at this
           clear hp3
           go_wp2
           go_loopw [70] (fun c wr => ∃ j : Nat, j ≤ 10 ∧ c = .int .i64 j ∧ Hid (Below w2.heap.size w2 wr) ∧ Hid (InsAt wr w2.heap.size ((kindTo h j : Nat), 0, 0, 0, ⟨#[]⟩)) ∧ Hid (∀ i, i < 10 → wr.cell? ⟨w2.heap.size + 1, i, none⟩ = some (.string (ofT (word i))))) (fun c _ => 10 - (intOf c).toNat)
           case atStart => exact ⟨0, Nat.zero_le _, rfl, HB3, HI3.out, HW3⟩
           case round =>
             obtain ⟨j, hj, rfl, HBQ, HIQ, HWQ⟩ := hrel
             by_cases hj9 : j < 10
             case pos =>
               have cw := HWQ.out j hj9
               have hst := text_same (word j) h
               have ch := kept_cell HBQ.out HCL.out
               by_cases hj0 : j = 0
               case pos =>
                 subst hj0
                 have HIN : Hid (InsAt wr w2.heap.size ((kindTo h (0 + 1) : Nat), 0, 0, 0, ⟨#[]⟩)) := by
                   show InsAt _ _ _
                   rw [kindTo_miss (.inl rfl)]; exact HIQ.out
                 clear hst ch
                 go_wp2
                 go_roundw
                 case rel => exact ⟨0 + 1, by omega, by go_num, HBQ, HIN, HWQ⟩
                 case measure => simp [intOf]
               case neg =>
                 have hjp : (0 : Int) < (j : Int) := by omega
                 by_cases hw : word j = h
                 case pos =>
                   rw [decide_eq_true hw] at hst
                   have HKT := hid (kindTo_hit (h := h) (j := j) (by omega) (by omega) hw.symm)
                   have HIN : Hid (InsAt (wr.setCell ⟨w2.heap.size, 0, none⟩ (.int .i64 j)) w2.heap.size ((kindTo h (j + 1) : Nat), 0, 0, 0, ⟨#[]⟩)) := by
                     show InsAt _ _ _
                     rw [HKT.out]; exact HIQ.out.put0 (j : Int)
                   have HBN := hid (HBQ.out.setCell (p := ⟨w2.heap.size, 0, none⟩) (Nat.le_refl _) (.int .i64 j))
                   have HWN : Hid (∀ i, i < 10 → (wr.setCell ⟨w2.heap.size, 0, none⟩ (.int .i64 j)).cell? ⟨w2.heap.size + 1, i, none⟩ = some (.string (ofT (word i)))) := fun i hi => by
                     rw [World.cell?_setCell_far _ _ _ _ (by show w2.heap.size ≠ w2.heap.size + 1; omega)]; exact HWQ.out i hi
                   have i0 := HIQ.out.c0
                   have if0 := HIQ.out.free 0
                   clear hw
                   generalize ofT (word j) = WJ at *
                   generalize ofT h = HH at *
                   go_wp2
                   go_roundw
                   case rel => exact ⟨j + 1, by omega, by go_num, HBN, HIN, HWN⟩
                   case measure => simp [intOf]; omega
                 case neg =>
                   rw [decide_eq_false hw] at hst
                   have HIN : Hid (InsAt wr w2.heap.size ((kindTo h (j + 1) : Nat), 0, 0, 0, ⟨#[]⟩)) := by
                     show InsAt _ _ _
                     rw [kindTo_miss (.inr (fun e => hw e.symm))]; exact HIQ.out
                   clear hw
                   generalize ofT (word j) = WJ at *
                   generalize ofT h = HH at *
                   go_wp2
                   go_roundw
                   case rel => exact ⟨j + 1, by omega, by go_num, HBQ, HIN, HWQ⟩
                   case measure => simp [intOf]; omega
             case neg =>
               obtain rfl : j = 10 := by omega
               rw [kindTo_end] at HIQ
               have HSQ := hid (HST.out.below HBQ.out)
               clear HWQ
               generalize hkk : kindOf h = kk at *
               by_cases hk0 : kk = 0
               case pos =>
                 subst hk0
                 have HEQ := hid (HBAD.out 1 (by decide) (by rw [read_none (l := h :: r) hkk]))
                 have HBEL := hid HSQ.out.bel
                 have HRES := hid HSQ.out.res
                 have i0 := HIQ.out.c0
                 clear hkk
                 go_wp2_with fail
                 refine (HNO.out _ _).mono ?_
                 rintro e wn ⟨rfl, hbn⟩
                 have HBN := hid (below_deep HBEL.out hbn)
                 have HAN := hid (HRES.out.below hbn)
                 obtain ⟨r0, r1, r2, rf⟩ := HAN.out
                 have f0 := rf 0
                 have f1 := rf 1
                 have f2 := rf 2
                 clear rf hbn
                 go_wp2
                 (try simp only [Exit.inBlock, Exit.then])
                 refine bodyPost_ret (refParse_results _ w.heap.size _ rfl rfl (HAN.out.all (.slice none 0 0) (.slice none 0 0) (.slice none 0 0))) rfl ?_
                 exact told_none HEQ.out (below_three HBN.out (Nat.le_refl _) _ _ _)
               case neg =>
                 obtain ⟨hk1, hk9⟩ : 1 ≤ kk ∧ kk ≤ 9 := by
                   rcases kindOf_cases h with h0 | ⟨h1, h9, _⟩
                   · omega
                   · omega
                 have HRI := hid ((read_fill (l := h :: r) hkk hk1 hk9).trans (fill_form hk1 hk9 h r))
                 have HFC := hid (form_calls kk wr hk1 hk9)
                 have HLET := hid (form_letters hk1 hk9)
                 have i0 := HIQ.out.c0
                 have hne : ((kk : Int) == 0) = false := by simpa using hk0
                 rw [keyT_len] at HRI HLET
                 clear hkk hk0 hk1 hk9
                 generalize form kk = F at *
                 go_wp2_with fail
                 refine HFC.out.mono ?_
                 rintro e w4 ⟨rfl, hb4⟩
                 have HB4 := hid (below_deep HBQ.out hb4)
                 have HI4 := hid (HIQ.out.below hb4)
                 have HS4 := hid (HSQ.out.below hb4)
                 have hF2 : F.size ≤ 2 := HLET.out.1
                 clear hb4
                 by_cases hfl : r.length = F.size
                 case neg =>
                   have HEQ := hid (HBAD.out 2 (by decide) (by rw [HRI.out, if_pos hfl]))
                   have HBEL := hid HS4.out.bel
                   have HRES := hid HS4.out.res
                   have hd5 : (((r.length : Int) + 1) != ((F.size : Int) + 1)) = true := by simpa using fun e => hfl (by omega)
                   clear hfl
                   go_wp2_with fail
                   refine (HNO.out _ _).mono ?_
                   rintro e wn ⟨rfl, hbn⟩
                   have HBN := hid (below_deep HBEL.out hbn)
                   have HAN := hid (HRES.out.below hbn)
                   obtain ⟨r0, r1, r2, rf⟩ := HAN.out
                   have f0 := rf 0
                   have f1 := rf 1
                   have f2 := rf 2
                   clear rf hbn
                   go_wp2
                   (try simp only [Exit.inBlock, Exit.then])
                   refine bodyPost_ret (refParse_results _ w.heap.size _ rfl rfl (HAN.out.all (.slice none 0 0) (.slice none 0 0) (.slice none 0 0))) rfl ?_
                   exact told_none HEQ.out (below_three HBN.out (Nat.le_refl _) _ _ _)
                 case pos =>
                   have HRJ : Hid (readIns (h :: r) = match fillG ((keyT F).map placeOf) r (ins0 kk) with | some i => (0, i) | none => (2, ins00)) := by
                     show _ = _
                     rw [HRI.out, if_neg (fun x => x hfl)]
                     rfl
                   have hd5 : (((r.length : Int) + 1) != ((F.size : Int) + 1)) = false := by rw [hfl]; simp
                   have HFL := hid hfl
                   clear HIQ HBQ HSQ HRI HFC
                   generalize wr = wb2 at *
                   go_wp2
                   go_loopw [109] (fun c wr => ∃ (j : Nat) (i : Ins), j ≤ F.size ∧ c = .int .i64 j ∧ Hid (Below w2.heap.size w2 wr) ∧ Hid (InsAt wr w2.heap.size i) ∧ Hid (fillG ((keyT F).map placeOf) r (ins0 kk) = fillG (((keyT F).drop j).map placeOf) (r.drop j) i)) (fun c _ => F.size - (intOf c).toNat)
                   case atStart => exact ⟨0, ((kk : Int), 0, 0, 0, ⟨#[]⟩), Nat.zero_le _, rfl, HB4, HI4, rfl⟩
                   case round =>
                     obtain ⟨j, i, hj, rfl, HBQ, HIQ, HFS⟩ := hrel
                     by_cases hjF : j < F.size
                     case neg =>
                       obtain rfl : j = F.size := by omega
                       have HE0 := hid (fillL_end HFS.out (by have := HFL.out; omega))
                       have HE1 : Hid (readIns (h :: r) = (0, i)) := by show _ = _; rw [HRJ.out, HE0.out]
                       have HNX := hid (HNXT.out.1 (by rw [HE1.out]))
                       rw [HE1.out] at HNX
                       have HSR := hid (HST.out.below HBQ.out)
                       have HVC : Hid (insCells (C ++ [i]) = insCells C ++ [.int .i64 i.kind, .int .i64 i.a, .int .i64 i.b, .int .i64 i.n, .string i.key]) := by
                         show _ = _; rw [insCells_append]; rfl
                       have HOX := hid (HSR.out.own.alloc (.cells #[.int .i64 i.kind, .int .i64 i.a, .int .i64 i.b, .int .i64 i.n, .string i.key] 72))
                       have HCX := hid (lies_one wr #[.int .i64 i.kind, .int .i64 i.a, .int .i64 i.b, .int .i64 i.n, .string i.key] 72 5 rfl)
                       have HLT := hid HOX.out.lt
                       have B1 : Hid ((k - 2 + 1) * 48 ≤ 140737488355328) := by show _ ≤ _; omega
                       have HBS := hid HSR.out.bs
                       have d2 := HSR.out.dd.c2
                       obtain ⟨i0, i1, i2, i3, i4, _⟩ := HIQ.out
                       have hdw : w1.heap.size < wr.heap.size := HSR.out.dd.lt
                       have HY : Hid (∀ u ∈ [Value.int .i64 i.kind, .int .i64 i.a, .int .i64 i.b, .int .i64 i.n, .string i.key], u.oneCell' = true) := by
                         show ∀ u ∈ _, _
                         intro u hu
                         simp at hu
                         rcases hu with rfl | rfl | rfl | rfl | rfl <;> rfl
                       go_wp2_with (at_builtin; refine wpList_onto _ rfl _ _ 42 72 5 48 _ Tryz.underlying42 insInfo rfl (by decide) (by decide) rfl B _ (k - 2) _ rfl HOX.out _ 1 _ _ rfl HCX.out HY.out B1.out (le_box HBS.out) ?_)
                       intro v1 w6 hown hg
                       have HG6 := hid ((((Below.refl B wr).alloc HBS.out (.cells #[.int .i64 i.kind, .int .i64 i.a, .int .i64 i.b, .int .i64 i.n, .string i.key] 72))).grown hg (le_box HBS.out) (fun y hy => (HLT.out y hy).1))
                       obtain ⟨cb, cc, rfl, _⟩ := Lies.owned hown
                       rw [← HVC.out] at hown
                       have HPS := hid (HSR.out.push HKG.out HG6.out hown HNX.out)
                       have e0 := (HSR.out.dd.under HG6.out HSR.out.bd).c2
                       have ef := (HSR.out.dd.under HG6.out HSR.out.bd).free 2
                       clear hown hg
                       go_wp2
                       go_roundw
                       case rel => exact ⟨k + 1, _, _, _, _, _, _, _, _, _, by omega, by go_num, HPS⟩
                       case measure => simp [intOf]; omega
                     case pos =>
                       have hjr : j < r.length := by have := HFL.out; omega
                       have hji : (j : Int) < (F.size : Int) := by omega
                       have cx : wr.cell? ⟨lb, lo + (j + 1), none⟩ = some (.string (ofT (r.getD j []))) := by
                         rcases HT2.out.run with h | ⟨b', o', e, hr⟩
                         · omega
                         · cases e
                           have := hr (j + 1) _ (by
                             show (strs (ofT h :: r.map ofT))[j + 1]? = some (.string (ofT (r.getD j [])))
                             simp [strs, List.getD, hjr])
                           exact kept_cell HBQ.out this
                       have hjw : (j : Int) + 1 < (r.length : Int) + 1 := by omega
                       have HFN := hid (fillL_next HFS.out hjF hjr)
                       have HXZ : Hid ((r.getD j []).length ≤ 400) := HRW.out _ (by simp [List.getD, hjr])
                       have hlet := HLET.out.2 F[j] (letter_mem hjF)
                       clear hjr
                       generalize r.getD j [] = x at *
                       rcases hlet with hl | hl | hl | hl
                       · have t1 : ((F[j].toNat : Int) == 107) = false := by rw [hl]; rfl
                         have t2 : ((F[j].toNat : Int) == 110) = false := by rw [hl]; rfl
                         have t3 : ((F[j].toNat : Int) == 114) = true := by rw [hl]; rfl
                         rw [hl] at HFN
                         clear hl
                         have HGX := hid ((HG.out.below HL.out.bel).below (below_deep HBW.out HBQ.out))
                         cases x with
                         | nil =>
                           have se : ((ofT ([] : T)).toList == []) = true := by rw [text_eq]; rfl
                           have HEQ := hid (HBAD.out 2 (by decide) (by rw [HRJ.out, HFN.out.2 (by rw [step_r]; rfl)]))
                           have HS6 := hid (HST.out.below HBQ.out)
                           have HBEL := hid HS6.out.bel
                           have HRES := hid HS6.out.res
                           generalize ofT ([] : T) = X at *
                           go_wp2_with fail
                           refine (HNO.out _ _).mono ?_
                           rintro e wn ⟨rfl, hbn⟩
                           have HBN := hid (below_deep HBEL.out hbn)
                           have HAN := hid (HRES.out.below hbn)
                           obtain ⟨r0, r1, r2, rf⟩ := HAN.out
                           have f0 := rf 0
                           have f1 := rf 1
                           have f2 := rf 2
                           clear rf hbn
                           go_wp2
                           (try simp only [Exit.inBlock, Exit.then])
                           refine bodyPost_ret (refParse_results _ w.heap.size _ rfl rfl (HAN.out.all (.slice none 0 0) (.slice none 0 0) (.slice none 0 0))) rfl ?_
                           exact told_none HEQ.out (below_three HBN.out (Nat.le_refl _) _ _ _)
                         | cons c0 x' =>
                           have se : ((ofT (c0 :: x')).toList == []) = false := by rw [text_eq]; rfl
                           have hXs : 0 < (ofT (c0 :: x')).size := by rw [ofT_size]; simp
                           have hXi : (0 : Int) < ((ofT (c0 :: x')).size : Int) := by omega
                           by_cases hc0 : c0 = 114
                           case neg =>
                             have s1 : (((ofT (c0 :: x'))[0].toNat : Int) != 114) = true := by
                               rw [first_ofT c0 x' hXs]
                               have : c0.toNat ≠ 114 := fun e => hc0 (UInt8.toNat_inj.1 e)
                               simpa using fun e => this (by omega)
                             have HEQ := hid (HBAD.out 2 (by decide) (by rw [HRJ.out, HFN.out.2 (by rw [step_r]; rw [regOf_no _ hc0]; rfl)]))
                             have HS6 := hid (HST.out.below HBQ.out)
                             have HBEL := hid HS6.out.bel
                             have HRES := hid HS6.out.res
                             clear hc0
                             generalize ofT (c0 :: x') = X at *
                             go_wp2_with fail
                             refine (HNO.out _ _).mono ?_
                             rintro e wn ⟨rfl, hbn⟩
                             have HBN := hid (below_deep HBEL.out hbn)
                             have HAN := hid (HRES.out.below hbn)
                             obtain ⟨r0, r1, r2, rf⟩ := HAN.out
                             have f0 := rf 0
                             have f1 := rf 1
                             have f2 := rf 2
                             clear rf hbn
                             go_wp2
                             (try simp only [Exit.inBlock, Exit.then])
                             refine bodyPost_ret (refParse_results _ w.heap.size _ rfl rfl (HAN.out.all (.slice none 0 0) (.slice none 0 0) (.slice none 0 0))) rfl ?_
                             exact told_none HEQ.out (below_three HBN.out (Nat.le_refl _) _ _ _)
                           case pos =>
                             subst hc0
                             have s1 : (((ofT (114 :: x'))[0].toNat : Int) != 114) = false := by
                               rw [first_ofT 114 x' hXs]; rfl
                             have hex := rest_ofT 114 x'
                             have HCN := hid (refNum_calls (ofT x') wr HGX.out (by rw [ofT_size]; have := HXZ.out; simp at this; omega))
                             rw [keyT_ofT] at HCN
                             have hreg := regOf_yes x'
                             rw [step_r, hreg] at HFN
                             clear hreg
                             generalize ofT (114 :: x') = X at *
                             go_wp2_with fail
                             refine HCN.out.mono ?_
                             rintro e w5 ⟨⟨v5, rfl, hv⟩, hb5⟩
                             have HB5 := hid (below_deep HBQ.out hb5)
                             have HI5 := hid (HIQ.out.below hb5)
                             have a1 := HI5.out.c1
                             have af := HI5.out.free 1
                             have HB6 := hid (HB5.out.setCell (p := ⟨w2.heap.size, 1, none⟩) (Nat.le_refl _) (.int .i64 v5))
                             cases ho : numOf x' with
                             | none =>
                               rw [ho] at HFN
                               have HEQ := hid (HBAD.out 2 (by decide) (by rw [HRJ.out, HFN.out.2 rfl]))
                               have HS6 := hid (HST.out.below HB6.out)
                               have HBEL := hid HS6.out.bel
                               have HRES := hid HS6.out.res
                               clear hv hb5
                               go_wp2_with fail
                               refine (HNO.out _ _).mono ?_
                               rintro e wn ⟨rfl, hbn⟩
                               have HBN := hid (below_deep HBEL.out hbn)
                               have HAN := hid (HRES.out.below hbn)
                               obtain ⟨r0, r1, r2, rf⟩ := HAN.out
                               have f0 := rf 0
                               have f1 := rf 1
                               have f2 := rf 2
                               clear rf hbn
                               go_wp2
                               (try simp only [Exit.inBlock, Exit.then])
                               refine bodyPost_ret (refParse_results _ w.heap.size _ rfl rfl (HAN.out.all (.slice none 0 0) (.slice none 0 0) (.slice none 0 0))) rfl ?_
                               exact told_none HEQ.out (below_three HBN.out (Nat.le_refl _) _ _ _)
                             | some u =>
                               obtain rfl := hv u ho
                               rw [ho] at HFN
                               have HE := hid (HFN.out.1 _ rfl)
                               have HI6 := hid (HI5.out.put1 v5)
                               clear hv hb5
                               go_wp2
                               go_roundw
                               case rel => exact ⟨j + 1, _, by omega, by go_num, HB6, HI6, HE⟩
                               case measure => simp [intOf]; omega
                       · have t1 : ((F[j].toNat : Int) == 107) = false := by rw [hl]; rfl
                         have t2 : ((F[j].toNat : Int) == 110) = false := by rw [hl]; rfl
                         have t3 : ((F[j].toNat : Int) == 114) = false := by rw [hl]; rfl
                         rw [hl] at HFN
                         clear hl
                         have HGX := hid ((HG.out.below HL.out.bel).below (below_deep HBW.out HBQ.out))
                         cases x with
                         | nil =>
                           have se : ((ofT ([] : T)).toList == []) = true := by rw [text_eq]; rfl
                           have HEQ := hid (HBAD.out 2 (by decide) (by rw [HRJ.out, HFN.out.2 (by rw [step_s]; rfl)]))
                           have HS6 := hid (HST.out.below HBQ.out)
                           have HBEL := hid HS6.out.bel
                           have HRES := hid HS6.out.res
                           generalize ofT ([] : T) = X at *
                           go_wp2_with fail
                           refine (HNO.out _ _).mono ?_
                           rintro e wn ⟨rfl, hbn⟩
                           have HBN := hid (below_deep HBEL.out hbn)
                           have HAN := hid (HRES.out.below hbn)
                           obtain ⟨r0, r1, r2, rf⟩ := HAN.out
                           have f0 := rf 0
                           have f1 := rf 1
                           have f2 := rf 2
                           clear rf hbn
                           go_wp2
                           (try simp only [Exit.inBlock, Exit.then])
                           refine bodyPost_ret (refParse_results _ w.heap.size _ rfl rfl (HAN.out.all (.slice none 0 0) (.slice none 0 0) (.slice none 0 0))) rfl ?_
                           exact told_none HEQ.out (below_three HBN.out (Nat.le_refl _) _ _ _)
                         | cons c0 x' =>
                           have se : ((ofT (c0 :: x')).toList == []) = false := by rw [text_eq]; rfl
                           have hXs : 0 < (ofT (c0 :: x')).size := by rw [ofT_size]; simp
                           have hXi : (0 : Int) < ((ofT (c0 :: x')).size : Int) := by omega
                           by_cases hc0 : c0 = 114
                           case neg =>
                             have s1 : (((ofT (c0 :: x'))[0].toNat : Int) != 114) = true := by
                               rw [first_ofT c0 x' hXs]
                               have : c0.toNat ≠ 114 := fun e => hc0 (UInt8.toNat_inj.1 e)
                               simpa using fun e => this (by omega)
                             have HEQ := hid (HBAD.out 2 (by decide) (by rw [HRJ.out, HFN.out.2 (by rw [step_s]; rw [regOf_no _ hc0]; rfl)]))
                             have HS6 := hid (HST.out.below HBQ.out)
                             have HBEL := hid HS6.out.bel
                             have HRES := hid HS6.out.res
                             clear hc0
                             generalize ofT (c0 :: x') = X at *
                             go_wp2_with fail
                             refine (HNO.out _ _).mono ?_
                             rintro e wn ⟨rfl, hbn⟩
                             have HBN := hid (below_deep HBEL.out hbn)
                             have HAN := hid (HRES.out.below hbn)
                             obtain ⟨r0, r1, r2, rf⟩ := HAN.out
                             have f0 := rf 0
                             have f1 := rf 1
                             have f2 := rf 2
                             clear rf hbn
                             go_wp2
                             (try simp only [Exit.inBlock, Exit.then])
                             refine bodyPost_ret (refParse_results _ w.heap.size _ rfl rfl (HAN.out.all (.slice none 0 0) (.slice none 0 0) (.slice none 0 0))) rfl ?_
                             exact told_none HEQ.out (below_three HBN.out (Nat.le_refl _) _ _ _)
                           case pos =>
                             subst hc0
                             have s1 : (((ofT (114 :: x'))[0].toNat : Int) != 114) = false := by
                               rw [first_ofT 114 x' hXs]; rfl
                             have hex := rest_ofT 114 x'
                             have HCN := hid (refNum_calls (ofT x') wr HGX.out (by rw [ofT_size]; have := HXZ.out; simp at this; omega))
                             rw [keyT_ofT] at HCN
                             have hreg := regOf_yes x'
                             rw [step_s, hreg] at HFN
                             clear hreg
                             generalize ofT (114 :: x') = X at *
                             go_wp2_with fail
                             refine HCN.out.mono ?_
                             rintro e w5 ⟨⟨v5, rfl, hv⟩, hb5⟩
                             have HB5 := hid (below_deep HBQ.out hb5)
                             have HI5 := hid (HIQ.out.below hb5)
                             have a1 := HI5.out.c2
                             have af := HI5.out.free 2
                             have HB6 := hid (HB5.out.setCell (p := ⟨w2.heap.size, 2, none⟩) (Nat.le_refl _) (.int .i64 v5))
                             cases ho : numOf x' with
                             | none =>
                               rw [ho] at HFN
                               have HEQ := hid (HBAD.out 2 (by decide) (by rw [HRJ.out, HFN.out.2 rfl]))
                               have HS6 := hid (HST.out.below HB6.out)
                               have HBEL := hid HS6.out.bel
                               have HRES := hid HS6.out.res
                               clear hv hb5
                               go_wp2_with fail
                               refine (HNO.out _ _).mono ?_
                               rintro e wn ⟨rfl, hbn⟩
                               have HBN := hid (below_deep HBEL.out hbn)
                               have HAN := hid (HRES.out.below hbn)
                               obtain ⟨r0, r1, r2, rf⟩ := HAN.out
                               have f0 := rf 0
                               have f1 := rf 1
                               have f2 := rf 2
                               clear rf hbn
                               go_wp2
                               (try simp only [Exit.inBlock, Exit.then])
                               refine bodyPost_ret (refParse_results _ w.heap.size _ rfl rfl (HAN.out.all (.slice none 0 0) (.slice none 0 0) (.slice none 0 0))) rfl ?_
                               exact told_none HEQ.out (below_three HBN.out (Nat.le_refl _) _ _ _)
                             | some u =>
                               obtain rfl := hv u ho
                               rw [ho] at HFN
                               have HE := hid (HFN.out.1 _ rfl)
                               have HI6 := hid (HI5.out.put2 v5)
                               clear hv hb5
                               go_wp2
                               go_roundw
                               case rel => exact ⟨j + 1, _, by omega, by go_num, HB6, HI6, HE⟩
                               case measure => simp [intOf]; omega
                       · have t1 : ((F[j].toNat : Int) == 107) = false := by rw [hl]; rfl
                         have t2 : ((F[j].toNat : Int) == 110) = true := by rw [hl]; rfl
                         rw [hl, step_n] at HFN
                         clear hl
                         have HCN := hid (refNum_calls (ofT x) wr ((HG.out.below HL.out.bel).below (below_deep HBW.out HBQ.out)) (by rw [ofT_size]; have := HXZ.out; omega))
                         rw [keyT_ofT] at HCN
                         generalize ofT x = X at *
                         go_wp2_with fail
                         refine HCN.out.mono ?_
                         rintro e w5 ⟨⟨v5, rfl, hv⟩, hb5⟩
                         have HB5 := hid (below_deep HBQ.out hb5)
                         have HI5 := hid (HIQ.out.below hb5)
                         have a1 := HI5.out.c3
                         have af := HI5.out.free 3
                         have HB6 := hid (HB5.out.setCell (p := ⟨w2.heap.size, 3, none⟩) (Nat.le_refl _) (.int .i64 v5))
                         cases ho : numOf x with
                         | none =>
                           rw [ho] at HFN
                           have HEQ := hid (HBAD.out 2 (by decide) (by rw [HRJ.out, HFN.out.2 rfl]))
                           have HS6 := hid (HST.out.below HB6.out)
                           have HBEL := hid HS6.out.bel
                           have HRES := hid HS6.out.res
                           clear hv hb5
                           go_wp2_with fail
                           refine (HNO.out _ _).mono ?_
                           rintro e wn ⟨rfl, hbn⟩
                           have HBN := hid (below_deep HBEL.out hbn)
                           have HAN := hid (HRES.out.below hbn)
                           obtain ⟨r0, r1, r2, rf⟩ := HAN.out
                           have f0 := rf 0
                           have f1 := rf 1
                           have f2 := rf 2
                           clear rf hbn
                           go_wp2
                           (try simp only [Exit.inBlock, Exit.then])
                           refine bodyPost_ret (refParse_results _ w.heap.size _ rfl rfl (HAN.out.all (.slice none 0 0) (.slice none 0 0) (.slice none 0 0))) rfl ?_
                           exact told_none HEQ.out (below_three HBN.out (Nat.le_refl _) _ _ _)
                         | some u =>
                           obtain rfl := hv u ho
                           rw [ho] at HFN
                           have HE := hid (HFN.out.1 _ rfl)
                           have HI6 := hid (HI5.out.put3 v5)
                           clear hv hb5
                           go_wp2
                           go_roundw
                           case rel => exact ⟨j + 1, _, by omega, by go_num, HB6, HI6, HE⟩
                           case measure => simp [intOf]; omega
                       · have t1 : ((F[j].toNat : Int) == 107) = true := by rw [hl]; rfl
                         rw [hl, step_k] at HFN
                         clear hl
                         have a1 := HIQ.out.c4
                         have af := HIQ.out.free 4
                         have HE := hid (HFN.out.1 _ rfl)
                         have HI6 := hid (HIQ.out.put4 (ofT x))
                         have HB6 := hid (HBQ.out.setCell (p := ⟨w2.heap.size, 4, none⟩) (Nat.le_refl _) (.string (ofT x)))
                         generalize ofT x = X at *
                         go_wp2
                         go_roundw
                         case rel => exact ⟨j + 1, _, by omega, by go_num, HB6, HI6, HE⟩
                         case measure => simp [intOf]; omega
end Go.Proofs.YtlhaeeenkgkdaaaGreatDoor
