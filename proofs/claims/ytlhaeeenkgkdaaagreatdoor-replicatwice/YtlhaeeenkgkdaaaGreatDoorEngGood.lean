/-
  Own of the program: a copy of chains, that shares no memory with them.
  The document's own Keys of a deed, walked.
  Plain mathematics of engines: what each engine is, that is made of rows by deeds more, deeds done, and what is old forgotten.
-/
import Derived.Test.YtlhaeeenkgkdaaaGreatDoorChainAt
import Derived.Deep.RegionHeld3
import Derived.Test.YtlhaeeenkgkdaaaGreatDoorRefPut
import Derived.Test.YtlhaeeenkgkdaaaGreatDoorChainsIn
namespace Go.Proofs.YtlhaeeenkgkdaaaGreatDoor
open Go.RowKit

theorem step_grow (w : World) {ops : Array Oper} {o : Oper} {a : Act} {K : Act → World → Prop} {Q : Exit → Act → World → Prop} {E : Prop} (hgd : o.guard = none) (s x : Operand) (t e sz bytes : Nat) (z : Value)
   (hu : Tryz.prog.underlying t = some (.slice e)) (hinfo : (Tryz.prog.info? e).map (fun i => (i.zero, i.size, i.bytes)) = some (some z, sz, bytes)) (hzc : z.cells.size = sz) (hsz : 0 < sz) (hby : 0 < bytes)
   (ho : o.op = .call { callee := .builtin .append, args := #[s, x], argTypes := #[t, t] })
   (B : Nat) (v : Value) (n : Nat) (l : List Value) (hs : a.eval s = v) (hown : w.ownsRow B e sz v n l) (base : Option Addr) (m c : Nat) (l2 : List Value) (hx : a.eval x = .slice base m c) (hh : Lies w sz base m c l2) (hone : ∀ u ∈ l2, u.oneCell' = true)
   (hbytes : (n + m) * bytes ≤ 140737488355328) (hB : B ≤ w.heap.size)
   (h : ∀ v' w', w'.ownsRow B e sz v' (n + m) (l ++ l2) → w.grownBy w' v.ownBlock → K (a.put o.dst v') w') : if Region.wanted o (yielded ops a.tmps) = true then Oper.wp Tryz.prog o a w K Q else E := by
 have hw : Region.wanted o (yielded ops a.tmps) = true := by simp [Region.wanted, hgd]
 rw [if_pos hw]
 obtain ⟨i0, hi, hz0, hz1, hz2⟩ := info_parts hinfo
 have hlen := hh.len
 have h63 : n + m ≤ maxLen := by
   have := Nat.le_mul_of_pos_right (n + m) hby
   unfold maxLen; omega
 have key : ∀ ad, base = some ad → (∀ j u, l2[j]? = some u → w.cell? (ad.add j) = some u) → Oper.wp Tryz.prog o a w K Q := fun ad had hnews =>
   wp_append_own w s x t ho B e i0 _ sz bytes hu hi hz0 hz1 hz2 hzc hsz v n l hs hown ad m c l2 (by rw [hx, had]) hlen hnews hone h63 hbytes hB
     (fun v' w' h1 h2 _ => h v' w' h1 h2)
 cases base with
 | some ad =>
   rcases hh.run with he | ⟨b, o', he, hc⟩
   · subst he
     have : l2 = [] := List.eq_nil_of_length_eq_zero (by omega)
     exact key ad rfl (fun j u hu => by rw [this] at hu; simp at hu)
   · cases he
     exact key _ rfl (fun j u hu => by rw [Addr.add_lit]; exact hc j u hu)
 | none =>
   obtain rfl := hh.hdr.nil rfl
   obtain rfl : m = 0 := by have := hh.hdr.le; omega
   have hl2 : l2 = [] := List.eq_nil_of_length_eq_zero (by omega)
   have hrun := run_append_owned_none (P := Tryz.prog) w B t o.type e i0 sz hu hi v n l hown
   unfold Oper.wp
   simp [execOp, ho, resolve, invoke, builtin, hs, hx, hrun, Result.andThen]
   exact h v w (by rw [hl2]; simpa using hown) (World.grownBy.refl _ _)

theorem cells2_keep {w1 w2 : World} {b0 o0 b1 o1 : Nat} {x0 x1 : Value} (h : w1.cell? ⟨b0, o0, none⟩ = some x0 ∧ w1.cell? ⟨b1, o1, none⟩ = some x1) (hb : Below w1.heap.size w1 w2) :
   w2.cell? ⟨b0, o0, none⟩ = some x0 ∧ w2.cell? ⟨b1, o1, none⟩ = some x1 := ⟨kept_cell hb h.1, kept_cell hb h.2⟩
theorem cells2_past {w1 : World} {b0 o0 b1 o1 : Nat} {x0 x1 : Value} (o : Obj) (h : w1.cell? ⟨b0, o0, none⟩ = some x0 ∧ w1.cell? ⟨b1, o1, none⟩ = some x1) :
   (w1.alloc o).cell? ⟨b0, o0, none⟩ = some x0 ∧ (w1.alloc o).cell? ⟨b1, o1, none⟩ = some x1 := ⟨box_past _ h.1, box_past _ h.2⟩
theorem cells2_grown {w1 w2 : World} {b o0 o1 : Nat} {x0 x1 : Value} {row : Option Nat} (hne : some b ≠ row) (hg : w1.grownBy w2 row) (h : w1.cell? ⟨b, o0, none⟩ = some x0 ∧ w1.cell? ⟨b, o1, none⟩ = some x1) :
   w2.cell? ⟨b, o0, none⟩ = some x0 ∧ w2.cell? ⟨b, o1, none⟩ = some x1 := ⟨hg.cell h.1 hne, hg.cell h.2 hne⟩
theorem own_old {w : World} {B e s n : Nat} {v : Value} {xs : List Value} (h : w.ownsRow B e s v n xs) : some w.heap.size ≠ v.ownBlock := fun e => by
 have := (h.lt _ e.symm).2; omega

theorem own_step {w wr A w1 w2 : World} {j : Nat} {u v2 : Value} {S : List Slot} {L : List Chn} {key : ByteArray} {vs : List Ver} {b1 : Option Addr} {vn c1 : Nat} {o : Obj}
   (HO : wr.ownsRow w.heap.size 115 2 u j (flat slotC S)) (HS : OwnSlots wr w.heap.size S L) (HB : Below w.heap.size w wr) (HG : Below wr.heap.size wr A) (hb1 : Below A.heap.size A w1)
   (ho1 : OwnsV w1 A.heap.size (.slice b1 vn c1) vs) (hz : key.size ≤ maxLen) (hown2 : w2.ownsRow w.heap.size 115 2 v2 (j + 1) (flat slotC S ++ [.string key, .slice b1 vn c1])) (hg2 : (w1.alloc o).grownBy w2 u.ownBlock) :
   w2.ownsRow w.heap.size 115 2 v2 (j + 1) (flat slotC (S ++ [(key, b1, vn, c1)])) ∧ OwnSlots w2 w.heap.size (S ++ [(key, b1, vn, c1)]) (L ++ [(key, vs)]) ∧ Below w.heap.size w w2 := by
 have hBA : w.heap.size ≤ A.heap.size := Nat.le_trans HB.size HG.size
 have hsl : OwnSlots w1 w.heap.size (S ++ [(key, b1, vn, c1)]) (L ++ [(key, vs)]) := by
   refine ((HS.below HG).below hb1).snoc rfl hz (owns_lower ho1 hBA) (fun i hi a ha e => ?_)
   have h1 := (HS.below HG).lt hi ha
   have h2 := (ho1.lt a e).1
   omega
 have hrow : (w1.alloc o).ownsRow w.heap.size 115 2 u j (flat slotC S) := (owns_keep (owns_keep HO HG) hb1).alloc o
 refine ⟨by rw [flat_snoc]; exact hown2, (hsl.below (grew w1 o)).grown hrow (by decide) hg2, ?_⟩
 refine ((below_deep (below_deep HB HG) hb1).alloc (Nat.le_trans hBA hb1.size) o).grown hg2 (le_box (Nat.le_trans hBA hb1.size)) (fun k hk => (HO.lt k hk).1)

set_option maxHeartbeats 2000000 in
set_option maxRecDepth 100000 in
theorem ownC_calls (L : List Chn) (base : Option Addr) (n c : Nat) (w : World) (hf : FitC L) (ha : ChainsIn w base n c L) :
   Calls Tryz.prog 68 #[.slice base n c] w fun e w' => ∃ v S, e = .returned v ∧ w'.ownsRow w.heap.size 115 2 v n (flat slotC S) ∧ OwnSlots w' w.heap.size S L ∧ Below w.heap.size w w' := by
 have hcn : n ≤ 387420489 := by rw [ha.len]; exact hf.count
 have HA := hid ha
 have HLN := hid ha.len
 have HF := hid hf
 clear ha hf
 go_enter Tryz.func68, Tryz.ntmps68
 go_wp2
 go_loopw [3, 8] (fun v i wr => ∃ (j : Nat) (S : List Slot), j ≤ n ∧ i = .int .i64 j ∧ Hid (wr.ownsRow w.heap.size 115 2 v j (flat slotC S)) ∧ Hid (OwnSlots wr w.heap.size S (L.take j)) ∧ Hid (Below w.heap.size w wr)) (fun _ i _ => n - (intOf i).toNat)
 case atStart => exact ⟨0, [], Nat.zero_le _, rfl, World.ownsRow_nil _ _ _ _, OwnSlots.nil _ _, Below.refl _ _⟩
 case round =>
   obtain ⟨j, S, hj, rfl, HO, HS, HBR⟩ := hrel
   by_cases hlt : j < n
   · have hjl : j < L.length := by rw [← HLN.out]; exact hlt
     have hi : (j : Int) < (n : Int) := by omega
     rcases (HA.out.below HBR.out).run with h | ⟨b, o, rfl, hrun⟩
     · omega
     obtain ⟨vb, vn, vc, c0, c1, hvv, hkz⟩ := hrun j hlt
     have hbw : b < wr.heap.size := by simpa using World.block_lt_of_cell? _ _ c0
     have hfew := HF.out.few _ (memC hjl)
     rw [← Vers.count hvv] at hfew
     have HTK := hid (take_snoc_getD hjl)
     rcases hx : L.getD j default with ⟨key, vs⟩
     rw [hx] at c0 hvv hkz HTK
     simp only at c0 hvv hkz
     clear hx hrun
     have HGW := hid (grew wr (.cells #[.string key, .slice vb vn vc] 115))
     have HS0 : Hid ((fun w' => w'.cell? ⟨wr.heap.size, 0, none⟩ = some (.string key) ∧ w'.cell? ⟨wr.heap.size, 1, none⟩ = some (.slice vb vn vc)) (wr.alloc (.cells #[.string key, .slice vb vn vc] 115)).drew) := ⟨box_cell wr #[.string key, .slice vb vn vc] _ 0 _ rfl, box_cell wr #[.string key, .slice vb vn vc] _ 1 _ rfl⟩
     have HOV := hid (ownVers_calls vs vb vn vc (wr.alloc (.cells #[.string key, .slice vb vn vc] 115)).drew (by omega) (hvv.below (by decide) HGW.out.drew))
     have HKZ := hid hkz
     have HNE := hid (own_old HO.out)
     clear hvv hkz
     go_wp2
     go_region_held3 (fun w' => w'.cell? ⟨wr.heap.size, 0, none⟩ = some (.string key) ∧ w'.cell? ⟨wr.heap.size, 1, none⟩ = some (.slice vb vn vc))
       (first
         | exact HS0.out
         | exact cells2_keep HS0.out (by assumption)
         | exact cells2_past _ (by assumption)
         | exact cells2_grown HNE.out (by assumption) (by assumption))
       (first
         | (go_at_call 88; refine HOV.out.mono ?_; rintro e w1 ⟨b1, c1', rfl, ho1, hb1⟩)
         | (refine step_grow _ rfl _ _ 30 115 2 40 _ Tryz.underlying30 chnInfo rfl (by decide) (by decide) rfl w.heap.size _ j (flat slotC S) rfl ?_ _ 1 _ [.string key, .slice b1 vn c1'] rfl ?_ ?_ ?_ ?_ ?_; (exact (owns_keep (owns_keep HO.out HGW.out.drew) hb1).alloc _); (exact lies_one w1 #[.string key, .slice b1 vn c1'] _ 2 rfl); (exact slotC_one (key, b1, vn, c1')); omega; (exact Nat.le_trans HBR.out.size (Nat.le_trans HGW.out.size (Nat.le_trans hb1.size (by simp)))); intro v2 w2 hown2 hg2))
     have HX := hid (own_step HO.out HS.out HBR.out HGW.out.drew hb1 ho1 HKZ.out hown2 hg2)
     clear hown2 hg2 ho1 hb1 HOV HS0
     go_wp2
     go_roundw
     case rel => exact ⟨j + 1, S ++ [(key, b1, vn, c1')], by omega, by go_num, HX.out.1, by rw [HTK.out]; exact HX.out.2.1, HX.out.2.2⟩
     case measure => simp [intOf]; omega
   · obtain rfl : j = n := by omega
     have HS3 : Hid (OwnSlots wr w.heap.size S L) := by
       have := HS.out
       rw [List.take_of_length_le (by rw [← HLN.out]; exact Nat.le_refl _)] at this
       exact this
     go_wp2
     go_ret
     exact ⟨_, S, rfl, HO.out, HS3.out, HBR.out⟩
end Go.Proofs.YtlhaeeenkgkdaaaGreatDoor

namespace Go.Proofs.YtlhaeeenkgkdaaaGreatDoor
open Go.RowKit

theorem step_box {A w1 : World} (h : Below A.heap.size A w1) (o : Obj) : Below A.heap.size A (w1.alloc o) := h.alloc h.size o
theorem step_drew {A w1 : World} (h : Below A.heap.size A w1) : Below A.heap.size A w1.drew := ⟨h.os, h.tape, h.output, h.size, h.block⟩
theorem step_row {A w1 w2 : World} {e s n : Nat} {v : Value} {xs : List Value} (h : Below A.heap.size A w1) (ho : w1.ownsRow A.heap.size e s v n xs) (hg : w1.grownBy w2 v.ownBlock) : Below A.heap.size A w2 := h.grown hg h.size (fun k hk => (ho.lt k hk).1)
theorem lit_row (w : World) (B e s : Nat) (h : B ≤ w.heap.size) : (w.alloc (.cells #[] e)).ownsRow B e s (.slice (some ⟨w.heap.size, 0, none⟩) 0 0) 0 [] := by
 have := World.ownsRow_lit (base := B) (e := e) (size := s) w #[] 0 h (by unfold maxLen; omega) (by simp)
 simpa using this
theorem hold2 {A w' : World} {a b : Prop} (h : a ∧ b ∧ Below A.heap.size A w') : Below A.heap.size A w' := h.2.2
theorem hold4 {A w' : World} {a b c d : Prop} (h : a ∧ b ∧ c ∧ d ∧ Below A.heap.size A w') : Below A.heap.size A w' := h.2.2.2.2
theorem hold5 {A w' : World} {a b c d e : Prop} (h : a ∧ b ∧ c ∧ d ∧ e ∧ Below A.heap.size A w') : Below A.heap.size A w' := h.2.2.2.2.2
theorem hold6 {A w' : World} {a b c d e f : Prop} (h : a ∧ b ∧ c ∧ d ∧ e ∧ f ∧ Below A.heap.size A w') : Below A.heap.size A w' := h.2.2.2.2.2.2
set_option maxHeartbeats 4000000 in
set_option maxRecDepth 100000 in
theorem refKeys_calls (d : Deed3) (rb : Option Addr) (rn rc : Nat) (wb : Option Addr) (wn wc : Nat) (cb : Option Addr) (cn cc : Nat) (w : World) (hd : DeedIn w rb rn rc wb wn wc cb cn cc d.1 d.2.1 d.2.2) (h5 : rn ≤ 5) (h6 : wn ≤ 5) :
   Calls Tryz.prog 39 #[.agg #[.slice rb rn rc, .slice wb wn wc, .slice cb cn cc]] w fun e w' => ∃ b n c, e = .returned (.slice b n c) ∧ Texts w' b n c (keysD d) ∧ Below w.heap.size w w' := by
 have HBX := hid (Box.new w #[.slice rb rn rc, .slice wb wn wc, .slice cb cn cc] 44)
 have HBA := hid (grew w (.cells #[.slice rb rn rc, .slice wb wn wc, .slice cb cn cc] 44))
 have HD := hid (hd.below HBA.out)
 have HN1 := hid (Texts.count hd.tr)
 have HN2 := hid (Texts.count hd.tw)
 have N1 : Hid ((0 + rn) * 16 ≤ 140737488355328) := by show _ ≤ _; omega
 have N2 : Hid ((0 + rn + wn) * 16 ≤ 140737488355328) := by show _ ≤ _; omega
 clear hd
 go_enter Tryz.func39, Tryz.ntmps39
 go_wp2
 generalize w.alloc (.cells #[.slice rb rn rc, .slice wb wn wc, .slice cb cn cc] 44) = A at *
 have HK : Hid (∀ w', Below A.heap.size A w' → (w'.cell? ⟨w.heap.size, 0, none⟩ = some (.slice rb rn rc) ∧ w'.cell? ⟨w.heap.size, 1, none⟩ = some (.slice wb wn wc) ∧ Below A.heap.size A w')) := fun w' hb => ⟨(HBX.out.below hb).cell 0 _ rfl, (HBX.out.below hb).cell 1 _ rfl, hb⟩
 go_region_held3 (fun w' => w'.cell? ⟨w.heap.size, 0, none⟩ = some (.slice rb rn rc) ∧ w'.cell? ⟨w.heap.size, 1, none⟩ = some (.slice wb wn wc) ∧ Below A.heap.size A w')
   (first
     | exact HK.out _ (step_drew (Below.refl _ _))
     | exact HK.out _ (step_box (hold2 (by assumption)) _)
     | exact HK.out _ (by assumption))
   (first
     | (refine step_grow _ rfl _ _ 41 9 1 16 _ Tryz.underlying41 strInfo rfl (by decide) (by decide) rfl A.heap.size _ 0 [] rfl (lit_row A.drew A.heap.size _ 1 (Nat.le_refl _)) rb rn rc (strs d.1) rfl ?_ (strs_one d.1) N1.out ?_ ?_; (exact HD.out.tr.below (by decide) (hold2 (by assumption))); (exact (hold2 (by assumption)).size); intro v1 w1 hown1 hg1; have hb1 := step_row (step_box (step_drew (Below.refl A.heap.size A)) _) (lit_row A.drew A.heap.size 9 1 (Nat.le_refl _)) hg1)
     | (refine step_grow _ rfl _ _ 41 9 1 16 _ Tryz.underlying41 strInfo rfl (by decide) (by decide) rfl A.heap.size _ _ _ rfl hown1 wb wn wc (strs d.2.1) rfl ?_ (strs_one d.2.1) N2.out ?_ ?_; (exact HD.out.tw.below (by decide) (hold2 (by assumption))); (exact (hold2 (by assumption)).size); intro v2 w2 hown2 hg2; have hb2 := step_row hb1 hown1 hg2; obtain ⟨kb, kc, hke, hkl⟩ := Lies.owned hown2; subst hke))
 have HL : Hid (Texts w2 kb (rn + wn) kc (d.1 ++ d.2.1)) := by
   show Lies _ _ _ _ _ _
   rw [strs_append]
   simpa using hkl
 have HB2 := hid (below_deep HBA.out hb2)
 have hkn : rn + wn ≤ 10 := by omega
 have HKN : Hid (rn + wn = (d.1 ++ d.2.1).length) := by show _ = _; rw [List.length_append, ← HN1.out, ← HN2.out]
 have HFIN : Hid (keysD d = (d.1 ++ d.2.1).foldl addKey []) := rfl
 clear hown1 hg1 hb1 hown2 hg2 hb2 hkl HK HBX HD N1 N2 HBA HN1 HN2
 simp only [Nat.zero_add]
 rw [show ((rn : Int) + (wn : Int)) = ((rn + wn : Nat) : Int) from by omega]
 generalize d.1 ++ d.2.1 = K at *
 generalize rn + wn = kn at *
 go_wp2
 go_loopw [3, 17] (fun v i wr => ∃ j r : Nat, j ≤ kn ∧ r ≤ j ∧ i = .int .i64 j ∧ Hid (((K.take j).foldl addKey []).length = r) ∧ Hid (wr.ownsRow w2.heap.size 9 1 v r (strs ((K.take j).foldl addKey []))) ∧ Hid (Below w2.heap.size w2 wr)) (fun _ i _ => kn - (intOf i).toNat)
 case atStart => exact ⟨0, 0, Nat.zero_le _, Nat.le_refl _, rfl, rfl, World.ownsRow_nil _ _ _ _, Below.refl _ _⟩
 case round =>
   obtain ⟨j, r, hj, hr, rfl, HR, HO, HBR⟩ := hrel
   by_cases hlt : j < kn
   · have hjl : j < K.length := by rw [← HKN.out]; exact hlt
     have hi : (j : Int) < (kn : Int) := by omega
     rcases (HL.out.below (by decide) HBR.out).run with h | ⟨b, o, rfl, h1⟩
     · omega
     have c1 := h1 j _ (strs_at hjl)
     have hbw : b < wr.heap.size := by simpa using World.block_lt_of_cell? _ _ c1
     have HTK : Hid ((K.take (j + 1)).foldl addKey [] = addKey ((K.take j).foldl addKey []) (K.getD j default)) := by
       show _ = _
       rw [take_snoc_getD hjl, List.foldl_append, List.foldl_cons, List.foldl_nil]
     clear h1
     generalize K.getD j default = k at *
     generalize (K.take j).foldl addKey [] = O at *
     obtain ⟨ob, oc, rfl, hol⟩ := Lies.owned HO.out
     have HOL : Hid (Texts wr ob r oc O) := hol
     clear hol
     go_wp2
     generalize wr = wa at *
     go_loopw [6, 23] (fun hv i wr => ∃ q : Nat, q ≤ r ∧ i = .int .i64 q ∧ hv = .bool (has (O.take q) k) ∧ Hid (wr = wa)) (fun _ i _ => r - (intOf i).toNat)
     case atStart => exact ⟨0, Nat.zero_le _, rfl, rfl, rfl⟩
     case round =>
       obtain ⟨q, hq, rfl, rfl, HWE⟩ := hrel
       have hwe := HWE.out
       subst hwe
       by_cases hql : q < r
       · have hqO : q < O.length := by rw [HR.out]; exact hql
         have hiq : (q : Int) < (r : Int) := by omega
         rcases HOL.out.run with h | ⟨b2, o2, rfl, h2⟩
         · omega
         have c2 := h2 q _ (strs_at hqO)
         have hb2w : b2 < wr.heap.size := by simpa using World.block_lt_of_cell? _ _ c2
         have HT2 := hid (has_snoc (O.take q) (O.getD q default) k)
         rw [← take_snoc_getD hqO] at HT2
         clear h2
         generalize O.getD q default = x at *
         cases hh : has (O.take q) k with
         | true =>
           rw [hh] at HT2
           clear hh
           have HT3 : Hid (has (O.take (q + 1)) k = true) := by show _ = _; rw [HT2.out]; rfl
           go_wp2
           go_roundw
           case rel => exact ⟨q + 1, by omega, by go_num, by rw [HT3.out], trivial⟩
           case measure => simp [intOf]; omega
         | false =>
           rw [hh] at HT2
           clear hh
           by_cases hx : x = k
           · have t := streq_true hx
             have HT3 : Hid (has (O.take (q + 1)) k = true) := by show _ = _; rw [HT2.out, hx]; simp
             clear hx
             go_wp2
             go_roundw
             case rel => exact ⟨q + 1, by omega, by go_num, by rw [HT3.out], trivial⟩
             case measure => simp [intOf]; omega
           · have t := streq_false hx
             have HT3 : Hid (has (O.take (q + 1)) k = false) := by show _ = _; rw [HT2.out, decide_eq_false hx]; rfl
             clear hx
             go_wp2
             go_roundw
             case rel => exact ⟨q + 1, by omega, by go_num, by rw [HT3.out], trivial⟩
             case measure => simp [intOf]; omega
       · obtain rfl : q = r := by omega
         have hOq : O.take q = O := List.take_of_length_le (by rw [HR.out]; exact Nat.le_refl _)
         rw [hOq]
         cases hh : has O k with
         | true =>
           have HO2 : Hid (addKey O k = O) := by show _ = _; unfold addKey; rw [if_pos hh]
           clear hh hOq
           go_wp2
           go_roundw
           case rel => exact ⟨j + 1, q, by omega, by omega, by go_num, (by show _ = _; rw [HTK.out, HO2.out]; exact HR.out), (by rw [HTK.out, HO2.out]; exact HO), HBR⟩
           case measure => simp [intOf]; omega
         | false =>
           have HO2 : Hid (addKey O k = O ++ [k]) := by show _ = _; unfold addKey; rw [if_neg (by rw [hh]; simp)]
           clear hh hOq
           have HC1 := hid (lies_one wr #[.string k] 9 1 rfl)
           have HOA := hid (HO.out.alloc (.cells #[.string k] 9))
           have HBY : Hid ((q + 1) * 16 ≤ 140737488355328) := by show _ ≤ _; omega
           have HSZ := hid (le_box (o := .cells #[.string k] 9) HBR.out.size)
           go_wp2_with (at_builtin; refine wpList_onto _ rfl _ _ 41 9 1 16 _ Tryz.underlying41 strInfo rfl (by decide) (by decide) rfl w2.heap.size _ q _ rfl HOA.out _ 1 _ _ rfl HC1.out (strs_one [k]) HBY.out HSZ.out ?_)
           intro v3 w3 hown3 hg3
           have HB3 := hid (step_row (step_box HBR.out _) HOA.out hg3)
           have HO3 : Hid (w3.ownsRow w2.heap.size 9 1 v3 (q + 1) (strs (O ++ [k]))) := by
             show World.ownsRow _ _ _ _ _ _ _
             rw [strs_append]; exact hown3
           clear hown3 hg3
           go_wp2
           go_roundw
           case rel => exact ⟨j + 1, q + 1, by omega, by omega, by go_num, (by show _ = _; rw [HTK.out, HO2.out, List.length_append, HR.out]; rfl), (by rw [HTK.out, HO2.out]; exact HO3), HB3⟩
           case measure => simp [intOf]; omega
   · obtain rfl : j = kn := by omega
     have htk : K.take j = K := List.take_of_length_le (by rw [← HKN.out]; exact Nat.le_refl _)
     rw [htk, ← HFIN.out] at HO
     obtain ⟨ob, oc, rfl, hol⟩ := Lies.owned HO.out
     have HOL : Hid (Texts wr ob r oc (keysD d)) := hol
     clear hol
     go_wp2
     go_ret
     exact ⟨_, _, _, rfl, HOL.out, below_deep HB2.out HBR.out⟩
end Go.Proofs.YtlhaeeenkgkdaaaGreatDoor

namespace Go.Proofs.YtlhaeeenkgkdaaaGreatDoor
open Go.RowKit

def seqR (r0 : List Row) (D : List Deed3) (i : Nat) : List Row := allD r0 (D.take i)
def writes (D : List Deed3) (k : ByteArray) (i : Nat) : Bool := has (D.getD i default).2.1 k
def verI (r0 : List Row) (D : List Deed3) (dn : Nat → Bool) (k : ByteArray) (i : Nat) : Ver := if dn i = true then ((i : Int), true, isAt k (seqR r0 D (i + 1)), num k (seqR r0 D (i + 1))) else newV i
def newsV (r0 : List Row) (D : List Deed3) (dn : Nat → Bool) (k : ByteArray) (a n : Nat) : List Ver := ((List.range' a n).filter (writes D k)).map (verI r0 D dn k)
def oldV (r0 : List Row) (D : List Deed3) (m : Nat) (b : ByteArray → Int) (k : ByteArray) : List Ver := if isAt k (seqR r0 D m) = true then [(b k, true, true, num k (seqR r0 D m))] else []
structure Good (r0 : List Row) (D : List Deed3) (m : Nat) (dn : Nat → Bool) (b : ByteArray → Int) (e : Eng) : Prop where
 rows : Right r0
 right : RightDs D
 le : m ≤ D.length
 fresh : ∀ i, D.length ≤ i → dn i = false
 base : e.base = m
 deeds : e.deeds = D.drop m
 state : e.state = (List.range' m (D.length - m)).map (fun i => if dn i = true then 1 else 0)
 ends : e.ends = (List.range' m (D.length - m)).map (fun i => if dn i = true then endD (seqR r0 D i) (D.getD i default) else noE)
 srt : SrtC e.chains
 some_ : ∀ c ∈ e.chains, c.2 ≠ []
 vs : ∀ k, vsOf k e.chains = oldV r0 D m b k ++ newsV r0 D dn k m (D.length - m)
 lo : ∀ k, -1 ≤ b k
 hi : ∀ k, b k < m

theorem seqR_succ {r0 : List Row} {D : List Deed3} {i : Nat} (h : i < D.length) : seqR r0 D (i + 1) = doD (seqR r0 D i) (D.getD i default) := by
 unfold seqR; rw [take_snoc_getD h, allD_snoc]
theorem seqR_right {r0 : List Row} {D : List Deed3} (h : Right r0) (hD : RightDs D) (i : Nat) : Right (seqR r0 D i) := allD_right _ h (rights_take hD i)
theorem seqR_append {r0 : List Row} {D E : List Deed3} {i : Nat} (h : i ≤ D.length) : seqR r0 (D ++ E) i = seqR r0 D i := by
 unfold seqR; rw [List.take_append_of_le_length h]
theorem seqR_else {r0 : List Row} {D : List Deed3} (h : Right r0) (hD : RightDs D) {i : Nat} (hi : i < D.length) {k : ByteArray} (hk : writes D k i = false) : isAt k (seqR r0 D (i + 1)) = isAt k (seqR r0 D i) ∧ num k (seqR r0 D (i + 1)) = num k (seqR r0 D i) := by
 rw [seqR_succ hi]
 have hn : k ∉ (D.getD i default).2.1 := fun hm => by
   have : writes D k i = true := has_iff.2 hm
   rw [this] at hk; cases hk
 have := doD_else (seqR_right h hD i).srt (rights_at hD hi) hn
 exact ⟨this.2, this.1⟩

theorem befV_low {at_ : Int} : ∀ (l : List Ver) (o : Ver), (∀ v ∈ l, v.by_ < at_) → befV at_ l o = l.getLastD o
 | [], _, _ => rfl
 | v :: l, o, h => by
   rw [befV, if_pos (h v (by simp)), befV_low l v (fun x hx => h x (by simp [hx]))]
   cases l <;> rfl
theorem verI_by (r0 : List Row) (D : List Deed3) (dn : Nat → Bool) (k : ByteArray) (i : Nat) : (verI r0 D dn k i).by_ = i := by
 unfold verI; split <;> rfl
theorem newsV_by {r0 : List Row} {D : List Deed3} {dn : Nat → Bool} {k : ByteArray} {a n : Nat} {v : Ver} (h : v ∈ newsV r0 D dn k a n) : ∃ i, a ≤ i ∧ i < a + n ∧ v = verI r0 D dn k i ∧ writes D k i = true := by
 obtain ⟨i, hi, rfl⟩ := List.mem_map.1 h
 obtain ⟨h1, h2⟩ := List.mem_filter.1 hi
 have := List.mem_range'_1.1 h1
 exact ⟨i, this.1, this.2, rfl, h2⟩
theorem newsV_append (r0 : List Row) (D : List Deed3) (dn : Nat → Bool) (k : ByteArray) (a n m : Nat) : newsV r0 D dn k a (n + m) = newsV r0 D dn k a n ++ newsV r0 D dn k (a + n) m := by
 unfold newsV
 rw [← List.range'_append_1, List.filter_append, List.map_append]
theorem newsV_succ (r0 : List Row) (D : List Deed3) (dn : Nat → Bool) (k : ByteArray) (a n : Nat) : newsV r0 D dn k a (n + 1) = newsV r0 D dn k a n ++ (if writes D k (a + n) = true then [verI r0 D dn k (a + n)] else []) := by
 rw [newsV_append]
 congr 1
 unfold newsV
 simp only [List.range'_one, List.filter_cons, List.filter_nil]
 split <;> rfl
def seenV (r0 : List Row) (D : List Deed3) (dn : Nat → Bool) (b : ByteArray → Int) (k : ByteArray) (m n : Nat) : Ver := (newsV r0 D dn k m n).getLastD ((oldV r0 D m b k).getLastD ver0)
theorem getLastD_snoc {α : Type} (l : List α) (x o : α) : (l ++ [x]).getLastD o = x := by
 rw [List.getLastD_eq_getLast?, List.getLast?_concat]; rfl
theorem seen_of {r0 : List Row} {D : List Deed3} {m : Nat} {dn : Nat → Bool} {b : ByteArray → Int} {e : Eng} (G : Good r0 D m dn b e) {n : Nat} (hn : m + n ≤ D.length) (k : ByteArray) : before e.chains k ((m + n : Nat) : Int) = seenV r0 D dn b k m n := by
 unfold before seenV
 rw [G.vs k, show D.length - m = n + (D.length - m - n) from by omega, newsV_append, befV_append, befV_append]
 rw [befV_high _ (fun v hv => by
   obtain ⟨i, h1, _, rfl, _⟩ := newsV_by hv
   rw [verI_by]; omega)]
 rw [befV_low _ _ (fun v hv => by
   obtain ⟨i, _, h2, rfl, _⟩ := newsV_by hv
   rw [verI_by]; omega)]
 congr 1
 refine befV_low _ _ (fun v hv => ?_)
 unfold oldV at hv
 split at hv
 · simp at hv
   rw [hv]
   have := G.hi k
   show b k < _
   omega
 · cases hv
structure Seen (r0 : List Row) (D : List Deed3) (dn : Nat → Bool) (k : ByteArray) (m at_ : Nat) (v : Ver) : Prop where
 yes : v.made = true → v.has_ = isAt k (seqR r0 D at_) ∧ v.n = num k (seqR r0 D at_)
 no : v.made = false → ∃ i, m ≤ i ∧ i < at_ ∧ writes D k i = true ∧ dn i = false ∧ v = newV i
theorem seen_is {r0 : List Row} {D : List Deed3} {m : Nat} {dn : Nat → Bool} {b : ByteArray → Int} (h : Right r0) (hD : RightDs D) (k : ByteArray) : ∀ n, m + n ≤ D.length → Seen r0 D dn k m (m + n) (seenV r0 D dn b k m n)
 | 0, _ => by
   unfold seenV
   have e : newsV r0 D dn k m 0 = [] := rfl
   rw [e]
   show Seen r0 D dn k m m ((oldV r0 D m b k).getLastD ver0)
   unfold oldV
   split
   · rename_i hk
     exact ⟨fun _ => ⟨hk.symm, rfl⟩, fun h => by cases h⟩
   · rename_i hk
     have hk' : isAt k (seqR r0 D m) = false := by simpa using hk
     exact ⟨fun _ => ⟨hk'.symm, (num_not k _ hk').symm⟩, fun h => by cases h⟩
 | n + 1, hn => by
   have ih := seen_is (m := m) (b := b) (dn := dn) h hD k n (by omega)
   unfold seenV at ih ⊢
   rw [newsV_succ]
   cases hw : writes D k (m + n) with
   | true =>
     rw [if_pos rfl, getLastD_snoc]
     unfold verI
     cases hd : dn (m + n) with
     | true => exact ⟨fun _ => ⟨rfl, rfl⟩, fun h => by cases h⟩
     | false => exact ⟨(fun h => by cases h), fun _ => ⟨m + n, by omega, by omega, hw, hd, rfl⟩⟩
   | false =>
     rw [if_neg (by simp), List.append_nil]
     obtain ⟨e1, e2⟩ := seqR_else h hD (i := m + n) (by omega) hw
     refine ⟨fun hm => ?_, fun hm => ?_⟩
     · obtain ⟨h1, h2⟩ := ih.yes hm
       exact ⟨h1.trans e1.symm, h2.trans e2.symm⟩
     · obtain ⟨i, h1, h2, h3⟩ := ih.no hm
       exact ⟨i, h1, by omega, h3⟩
theorem Good.seen {r0 : List Row} {D : List Deed3} {m : Nat} {dn : Nat → Bool} {b : ByteArray → Int} {e : Eng} (G : Good r0 D m dn b e) {n : Nat} (hn : m + n ≤ D.length) (k : ByteArray) : Seen r0 D dn k m (m + n) (before e.chains k ((m + n : Nat) : Int)) := by
 rw [seen_of G hn k]; exact seen_is G.rows G.right k n hn
theorem Good.len {r0 : List Row} {D : List Deed3} {m : Nat} {dn : Nat → Bool} {b : ByteArray → Int} {e : Eng} (G : Good r0 D m dn b e) : e.deeds.length = D.length - m := by rw [G.deeds, List.length_drop]
theorem Good.deed {r0 : List Row} {D : List Deed3} {m : Nat} {dn : Nat → Bool} {b : ByteArray → Int} {e : Eng} (G : Good r0 D m dn b e) (p : Nat) : e.deeds.getD p default = D.getD (m + p) default := by rw [G.deeds]; simp [List.getD]
theorem Good.at_ {r0 : List Row} {D : List Deed3} {m : Nat} {dn : Nat → Bool} {b : ByteArray → Int} {e : Eng} (G : Good r0 D m dn b e) (p : Nat) : e.base + (p : Int) = ((m + p : Nat) : Int) := by rw [G.base]; omega

theorem needs_nil {r0 : List Row} {D : List Deed3} {m : Nat} {dn : Nat → Bool} {b : ByteArray → Int} {e : Eng} (G : Good r0 D m dn b e) {p : Nat} (hp : m + p < D.length) : needsE e p = [] ↔ ∀ x ∈ keysD (D.getD (m + p) default), (before e.chains x ((m + p : Nat) : Int)).made = true := by
 unfold needsE
 rw [List.filter_eq_nil_iff]
 constructor
 · intro h x hx
   cases hm : (before e.chains x ((m + p : Nat) : Int)).made with
   | true => rfl
   | false =>
     obtain ⟨i, h1, h2, _, _, hv⟩ := (G.seen (n := p) (by omega) x).no hm
     have := h (i - m) (List.mem_range.2 (by omega))
     exfalso
     apply this
     unfold needE
     rw [G.deed, G.at_, List.any_eq_true]
     refine ⟨x, hx, ?_⟩
     rw [hv, G.at_]
     have : m + (i - m) = i := by omega
     rw [this]
     simp [newV, Ver.made, Ver.by_]
 · intro h j hj hn
   unfold needE at hn
   rw [G.deed, G.at_, List.any_eq_true] at hn
   obtain ⟨x, hx, h2⟩ := hn
   rw [h x hx] at h2
   simp at h2
end Go.Proofs.YtlhaeeenkgkdaaaGreatDoor
