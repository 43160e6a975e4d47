/-
  Own and Add of the program's plans, walked.
-/
import Derived.Test.YtlhaeeenkgkdaaaGreatDoorRefAddE
import Derived.Test.YtlhaeeenkgkdaaaGreatDoorRefRight
import Derived.Deep.DeepCutAuto
import Derived.Deep.RegionWith
import Derived.Deep.RegionLaw
namespace Go.Proofs.YtlhaeeenkgkdaaaGreatDoor
open Go.RowKit

def DSlotK (w : World) (s : DSlot) (d : Deed3) : Prop := DSlotIs w s d ∧ Kind w 9 s.1.1 ∧ Kind w 9 s.2.1.1 ∧ Kind w 72 s.2.2.1
theorem DSlotK.below {w w' : World} {s : DSlot} {d : Deed3} (h : DSlotK w s d) (hb : Below w.heap.size w w') : DSlotK w' s d := ⟨h.1.below hb, h.2.1.below hb, h.2.2.1.below hb, h.2.2.2.below hb⟩
theorem kind_grown {w w' : World} {B e s m t : Nat} {v : Value} {xs : List Value} {base : Option Addr} (h : Kind w t base) (ho : w.ownsRow B e s v m xs) (hne : t ≠ e) (hg : w.grownBy w' v.ownBlock) : Kind w' t base := fun a ea => by
 obtain ⟨cur, z, hc⟩ := h a ea
 have h1 := own_apart (b := a.block) ho (.inr ⟨cur, z, hc⟩) hne
 exact ⟨cur, z, (hg.block _ (Array.getElem?_eq_some_iff.1 hc).1 h1).trans hc⟩
theorem lies_grownK {w w' : World} {B e s m t k : Nat} {v : Value} {xs vs : List Value} {nb : Option Addr} {nn nc : Nat} (hk0 : 0 < k) (h : Lies w k nb nn nc vs) (hk : Kind w t nb) (ho : w.ownsRow B e s v m xs) (hne : t ≠ e) (hg : w.grownBy w' v.ownBlock) : Lies w' k nb nn nc vs :=
 (h.grown hk0 (.inr (.inr hk)) ho hne hg).1
theorem DSlotK.grown {w w' : World} {B e s m : Nat} {v : Value} {xs : List Value} {sl : DSlot} {d : Deed3} (h : DSlotK w sl d) (ho : w.ownsRow B e s v m xs) (h1 : 9 ≠ e) (h2 : 72 ≠ e) (hg : w.grownBy w' v.ownBlock) : DSlotK w' sl d :=
 ⟨⟨⟨lies_grownK (by decide) h.1.1.tr h.2.1 ho h1 hg, lies_grownK (by decide) h.1.1.tw h.2.2.1 ho h1 hg, lies_grownK (by decide) h.1.1.cd h.2.2.2 ho h2 hg⟩, h.1.2⟩, kind_grown h.2.1 ho h1 hg, kind_grown h.2.2.1 ho h1 hg, kind_grown h.2.2.2 ho h2 hg⟩
theorem DSlotK.off {w w' : World} {b : Nat} {cs : Array Value} {t : TypeId} {sl : DSlot} {d : Deed3} (h : DSlotK w sl d) (hb : Box w b cs t) (h1 : 9 ≠ t) (h2 : 72 ≠ t) (ho : Off b w w') : DSlotK w' sl d :=
 ⟨⟨⟨Lies.off h.1.1.tr ho (.inr (kind_ne hb h.2.1 h1)), Lies.off h.1.1.tw ho (.inr (kind_ne hb h.2.2.1 h1)), Lies.off h.1.1.cd ho (.inr (kind_ne hb h.2.2.2 h2))⟩, h.1.2⟩, h.2.1.off ho (kind_ne hb h.2.1 h1), h.2.2.1.off ho (kind_ne hb h.2.2.1 h1), h.2.2.2.off ho (kind_ne hb h.2.2.2 h2)⟩
def DSlotsK (w : World) (T : List DSlot) (D : List Deed3) : Prop := T.length = D.length ∧ ∀ i, i < D.length → DSlotK w (T.getD i default) (D.getD i default)
theorem DSlotsK.nil (w : World) : DSlotsK w [] [] := ⟨rfl, fun _ h => absurd h (Nat.not_lt_zero _)⟩
theorem DSlotsK.below {w w' : World} {T : List DSlot} {D : List Deed3} (h : DSlotsK w T D) (hb : Below w.heap.size w w') : DSlotsK w' T D := ⟨h.1, fun i hi => (h.2 i hi).below hb⟩
theorem DSlotsK.grown {w w' : World} {B e s m : Nat} {v : Value} {xs : List Value} {T : List DSlot} {D : List Deed3} (h : DSlotsK w T D) (ho : w.ownsRow B e s v m xs) (h1 : 9 ≠ e) (h2 : 72 ≠ e) (hg : w.grownBy w' v.ownBlock) : DSlotsK w' T D := ⟨h.1, fun i hi => (h.2 i hi).grown ho h1 h2 hg⟩
theorem DSlotsK.off {w w' : World} {b : Nat} {cs : Array Value} {t : TypeId} {T : List DSlot} {D : List Deed3} (h : DSlotsK w T D) (hb : Box w b cs t) (h1 : 9 ≠ t) (h2 : 72 ≠ t) (ho : Off b w w') : DSlotsK w' T D := ⟨h.1, fun i hi => (h.2 i hi).off hb h1 h2 ho⟩
theorem DSlotsK.are {w : World} {T : List DSlot} {D : List Deed3} (h : DSlotsK w T D) : DSlotsAre w T D := ⟨h.1, fun i hi => (h.2 i hi).1⟩
theorem DSlotsK.snoc {w : World} {T : List DSlot} {D : List Deed3} {s : DSlot} {d : Deed3} (h : DSlotsK w T D) (hs : DSlotK w s d) : DSlotsK w (T ++ [s]) (D ++ [d]) := by
 refine ⟨by simp [h.1], fun i hi => ?_⟩
 by_cases e : i < D.length
 · have e' : i < T.length := by rw [h.1]; exact e
   have := h.2 i e
   simpa [List.getD, List.getElem?_append_left e, List.getElem?_append_left e'] using this
 · have hi' : i = D.length := by simp at hi; omega
   subst hi'
   have e1 : (T ++ [s]).getD D.length default = s := by rw [← h.1]; simp [List.getD]
   have e2 : (D ++ [d]).getD D.length default = d := by simp [List.getD]
   rw [e1, e2]; exact hs

structure EngOwn (w : World) (B : Nat) (cb : Option Addr) (cn cc : Nat) (v1 v2 v3 : Value) (e : Eng) : Prop where
 ch : ChK w cb cn cc e.chains
 de : ∃ T, w.ownsRow B 44 3 v1 e.deeds.length (flat dslotC T) ∧ DSlotsK w T e.deeds
 st : w.ownsRow B 3 1 v2 e.state.length (intsC e.state)
 en : w.ownsRow B 83 5 v3 e.ends.length (endCells e.ends)
theorem EngOwn.below {w w' : World} {cb : Option Addr} {B cn cc : Nat} {v1 v2 v3 : Value} {e : Eng} (h : EngOwn w B cb cn cc v1 v2 v3 e) (hb : Below w.heap.size w w') : EngOwn w' B cb cn cc v1 v2 v3 e := by
 obtain ⟨h1, ⟨T, h2, h2'⟩, h3, h4⟩ := h
 exact ⟨h1.below hb, ⟨T, owns_keep h2 hb, h2'.below hb⟩, owns_keep h3 hb, owns_keep h4 hb⟩
theorem ChK.off {w w' : World} {b : Nat} {cs : Array Value} {t : TypeId} {base : Option Addr} {n c : Nat} {L : List Chn} (h : ChK w base n c L) (hb : Box w b cs t) (h1 : 115 ≠ t) (h2 : 78 ≠ t) (ho : Off b w w') : ChK w' base n c L := by
 obtain ⟨S, hl, hk, hs⟩ := h
 exact ⟨S, Lies.off hl ho (.inr (kind_ne hb hk h1)), hk.off ho (kind_ne hb hk h1), hs.off0 hb h2 ho⟩
theorem EngOwn.put {w w' : World} {B b : Nat} {cs : Array Value} {cb : Option Addr} {cn cc : Nat} {v1 v2 v3 : Value} {e : Eng} (h : EngOwn w B cb cn cc v1 v2 v3 e) (hb : Box w b cs 33) (ho : Off b w w') : EngOwn w' B cb cn cc v1 v2 v3 e := by
 obtain ⟨h1, ⟨T, h2, h2'⟩, h3, h4⟩ := h
 exact ⟨h1.off hb (by decide) (by decide) ho, ⟨T, owns_off h2 ho (own_ne h2 hb (by decide)), h2'.off hb (by decide) (by decide) ho⟩, owns_off h3 ho (own_ne h3 hb (by decide)), owns_off h4 ho (own_ne h4 hb (by decide))⟩
theorem EngOwn.lower {w : World} {cb : Option Addr} {B B' cn cc : Nat} {v1 v2 v3 : Value} {e : Eng} (h : EngOwn w B cb cn cc v1 v2 v3 e) (hB : B' ≤ B) : EngOwn w B' cb cn cc v1 v2 v3 e := by
 obtain ⟨h1, ⟨T, h2, h2'⟩, h3, h4⟩ := h
 exact ⟨h1, ⟨T, owns_lower h2 hB, h2'⟩, owns_lower h3 hB, owns_lower h4 hB⟩
theorem EngOwn.lies {w : World} {cb : Option Addr} {B cn cc : Nat} {v1 v2 v3 : Value} {e : Eng} (h : EngOwn w B cb cn cc v1 v2 v3 e) : ∃ db dc sb sc eb ec, v1 = .slice db e.deeds.length dc ∧ v2 = .slice sb e.state.length sc ∧ v3 = .slice eb e.ends.length ec ∧ EngLies w cb cn cc db e.deeds.length dc sb e.state.length sc eb e.ends.length ec e := by
 obtain ⟨h1, ⟨T, h2, h2'⟩, h3, h4⟩ := h
 obtain ⟨db, dc, rfl, l2⟩ := Lies.owned h2
 obtain ⟨sb, sc, rfl, l3⟩ := Lies.owned h3
 obtain ⟨eb, ec, rfl, l4⟩ := Lies.owned h4
 exact ⟨db, dc, sb, sc, eb, ec, rfl, rfl, rfl, h1.chains, deeds_of_slots l2 h2'.are, l3, l4, Kind.owned h2, Kind.owned h3, Kind.owned h4⟩
theorem few_rights {d : Deed3} (h : RightDD d) {w : World} {rb wb cb : Option Addr} {rn rc wn wc cn cc : Nat} (hd : DeedIn w rb rn rc wb wn wc cb cn cc d.1 d.2.1 d.2.2) : rn * 16 ≤ 140737488355328 ∧ wn * 16 ≤ 140737488355328 ∧ cn * 48 ≤ 140737488355328 := by
 have h1 := wKeys_len h.r
 have h2 := wKeys_len h.w
 have h3 := h.c
 have e1 := Texts.count hd.tr
 have e2 := Texts.count hd.tw
 have e3 := Codes.count hd.cd
 omega

theorem own_deeds {W w6 : World} {cb : Option Addr} {B blk cn cc : Nat} {v1 v2 v3 v6 : Value} {bs : Int} {e : Eng} {T : List DSlot} {s : DSlot} {d : Deed3} (HX : Box W blk #[.slice cb cn cc, v1, v2, v3, .int .i64 bs] 33)
   (hc : ChK W cb cn cc e.chains) (ho : W.ownsRow B 44 3 v1 e.deeds.length (flat dslotC T)) (hT : DSlotsK W T e.deeds) (hs2 : W.ownsRow B 3 1 v2 e.state.length (intsC e.state)) (he3 : W.ownsRow B 83 5 v3 e.ends.length (endCells e.ends))
   (hsl : DSlotK W s d) (h6 : w6.ownsRow B 44 3 v6 (e.deeds.length + 1) (flat dslotC T ++ dslotC s)) (hg : W.grownBy w6 v1.ownBlock) :
   Box w6 blk #[.slice cb cn cc, v1, v2, v3, .int .i64 bs] 33 ∧ Box (w6.setCell ⟨blk, 1, none⟩ v6) blk #[.slice cb cn cc, v6, v2, v3, .int .i64 bs] 33 ∧ EngOwn (w6.setCell ⟨blk, 1, none⟩ v6) B cb cn cc v6 v2 v3 ⟨e.chains, e.deeds ++ [d], e.state, e.ends, e.base⟩ := by
 have hb6 : Box w6 blk #[.slice cb cn cc, v1, v2, v3, .int .i64 bs] 33 := HX.grown hg (own_ne ho HX (by decide))
 refine ⟨hb6, hb6.set 1 v6, ?_⟩
 have h : EngOwn w6 B cb cn cc v6 v2 v3 ⟨e.chains, e.deeds ++ [d], e.state, e.ends, e.base⟩ := by
   refine ⟨hc.grown ho (by decide) (by decide) hg, ⟨T ++ [s], ?_, ((hT.grown ho (by decide) (by decide) hg).snoc (hsl.grown ho (by decide) (by decide) hg))⟩, hs2.kept hg (rows_apart hs2 ho (by decide)), he3.kept hg (rows_apart he3 ho (by decide))⟩
   rw [flat_snoc]
   show w6.ownsRow B _ 3 v6 (e.deeds ++ [d]).length _
   rw [List.length_append]
   exact h6
 exact h.put hb6 (Off.set _ _ _ _)
theorem own_state {W w6 : World} {cb : Option Addr} {B blk cn cc : Nat} {v1 v2 v3 v6 : Value} {bs : Int} {e : Eng} {x : Int} (HX : Box W blk #[.slice cb cn cc, v1, v2, v3, .int .i64 bs] 33)
   (h : EngOwn W B cb cn cc v1 v2 v3 e) (h6 : w6.ownsRow B 3 1 v6 (e.state.length + 1) (intsC e.state ++ [.int .i64 x])) (hg : W.grownBy w6 v2.ownBlock) :
   Box w6 blk #[.slice cb cn cc, v1, v2, v3, .int .i64 bs] 33 ∧ Box (w6.setCell ⟨blk, 2, none⟩ v6) blk #[.slice cb cn cc, v1, v6, v3, .int .i64 bs] 33 ∧ EngOwn (w6.setCell ⟨blk, 2, none⟩ v6) B cb cn cc v1 v6 v3 ⟨e.chains, e.deeds, e.state ++ [x], e.ends, e.base⟩ := by
 obtain ⟨hc, ⟨T, ho, hT⟩, hs2, he3⟩ := h
 have hb6 : Box w6 blk #[.slice cb cn cc, v1, v2, v3, .int .i64 bs] 33 := HX.grown hg (own_ne hs2 HX (by decide))
 refine ⟨hb6, hb6.set 2 v6, ?_⟩
 have h : EngOwn w6 B cb cn cc v1 v6 v3 ⟨e.chains, e.deeds, e.state ++ [x], e.ends, e.base⟩ := by
   refine ⟨hc.grown hs2 (by decide) (by decide) hg, ⟨T, ho.kept hg (rows_apart ho hs2 (by decide)), hT.grown hs2 (by decide) (by decide) hg⟩, ?_, he3.kept hg (rows_apart he3 hs2 (by decide))⟩
   show w6.ownsRow B _ 1 v6 (e.state ++ [x]).length _
   rw [List.length_append, intsC_append]
   exact h6
 exact h.put hb6 (Off.set _ _ _ _)
theorem own_ends {W w6 : World} {cb : Option Addr} {B blk cn cc : Nat} {v1 v2 v3 v6 : Value} {bs : Int} {e : Eng} {x : End3} (HX : Box W blk #[.slice cb cn cc, v1, v2, v3, .int .i64 bs] 33)
   (h : EngOwn W B cb cn cc v1 v2 v3 e) (h6 : w6.ownsRow B 83 5 v6 (e.ends.length + 1) (endCells e.ends ++ endCell x)) (hg : W.grownBy w6 v3.ownBlock) :
   Box w6 blk #[.slice cb cn cc, v1, v2, v3, .int .i64 bs] 33 ∧ Box (w6.setCell ⟨blk, 3, none⟩ v6) blk #[.slice cb cn cc, v1, v2, v6, .int .i64 bs] 33 ∧ EngOwn (w6.setCell ⟨blk, 3, none⟩ v6) B cb cn cc v1 v2 v6 ⟨e.chains, e.deeds, e.state, e.ends ++ [x], e.base⟩ := by
 obtain ⟨hc, ⟨T, ho, hT⟩, hs2, he3⟩ := h
 have hb6 : Box w6 blk #[.slice cb cn cc, v1, v2, v3, .int .i64 bs] 33 := HX.grown hg (own_ne he3 HX (by decide))
 refine ⟨hb6, hb6.set 3 v6, ?_⟩
 have h : EngOwn w6 B cb cn cc v1 v2 v6 ⟨e.chains, e.deeds, e.state, e.ends ++ [x], e.base⟩ := by
   refine ⟨hc.grown he3 (by decide) (by decide) hg, ⟨T, ho.kept hg (rows_apart ho he3 (by decide)), hT.grown he3 (by decide) (by decide) hg⟩, hs2.kept hg (rows_apart hs2 he3 (by decide)), ?_⟩
   show w6.ownsRow B _ 5 v6 (e.ends ++ [x]).length _
   rw [List.length_append, endCells_append]
   have : endCells [x] = endCell x := by simp [endCells]
   rw [this]
   exact h6
 exact h.put hb6 (Off.set _ _ _ _)

theorem planOwn_results (tmps : Array Value) (b : Nat) (w : World) {a0 a1 a2 a3 : Option Addr} {n0 n1 n2 n3 c0 c1 c2 c3 : Nat} {z : Int} (h : tmps.getD 2 undef = .pointer (some ⟨b, 0, none⟩)) (hb : Box w b #[.slice a0 n0 c0, .slice a1 n1 c1, .slice a2 n2 c2, .slice a3 n3 c3, .int .i64 z] 33) :
   (results Tryz.f33 tmps).run Tryz.prog w = .ok (.agg #[.slice a0 n0 c0, .slice a1 n1 c1, .slice a2 n2 c2, .slice a3 n3 c3, .int .i64 z]) w := by
 have h' : tmps[2]?.getD undef = .pointer (some ⟨b, 0, none⟩) := by simpa using h
 obtain ⟨k0, k1, k2, k3, k4⟩ := hb.cells5
 simp [results, Tryz.results33, go_sem, h', k0, k1, k2, k3, k4]
theorem grown_nil {w1 w2 : World} (h : w1.grownBy w2 (Value.slice none 0 0).ownBlock) : Below w1.heap.size w1 w2 := ⟨h.os, h.tape, h.output, h.size, fun k hk => h.block k hk (by simp [Value.ownBlock])⟩
abbrev zeroA : Array Value := #[.slice none 0 0, .slice none 0 0, .slice none 0 0, .slice none 0 0, .int .i64 0]
theorem five5_below {w0 w : World} {B b : Nat} {v0 v1 v2 v3 v4 : Value} (h : Below B w0 w) (hb : B ≤ b) : Below B w0 (((((w.setCell ⟨b, 0, none⟩ v0).setCell ⟨b, 1, none⟩ v1).setCell ⟨b, 2, none⟩ v2).setCell ⟨b, 3, none⟩ v3).setCell ⟨b, 4, none⟩ v4) := put5_below h hb _ _ _ _ _
def OwnTold (w w' : World) (B : Nat) (e : Eng) (x : Ending) : Prop := ∃ cb cn cc v1 v2 v3, x = .returned (.agg #[.slice cb cn cc, v1, v2, v3, .int .i64 e.base]) ∧ EngOwn w' B cb cn cc v1 v2 v3 e ∧ Below B w w'
theorem own_made {A w1 w2 w3 : World} {cb : Option Addr} {cn cc : Nat} {v2 v3 : Value} {e : Eng} (hk : ChK w1 cb cn cc e.chains) (hb2 : Below w1.heap.size w1 w2) (h2 : w2.ownsRow A.heap.size 3 1 v2 e.state.length (intsC e.state)) (hb3 : Below w2.heap.size w2 w3) (h3 : w3.ownsRow A.heap.size 83 5 v3 e.ends.length (endCells e.ends)) :
   EngOwn w3 A.heap.size cb cn cc (.slice none 0 0) v2 v3 ⟨e.chains, [], e.state, e.ends, e.base⟩ :=
 ⟨(hk.below hb2).below hb3, ⟨[], World.ownsRow_nil _ _ _ _, DSlotsK.nil _⟩, owns_keep h2 hb3, h3⟩

set_option maxHeartbeats 16000000 in
set_option maxRecDepth 100000 in
theorem planOwnF_calls {e : Eng} (hf : FitC e.chains) (hld : e.deeds.length ≤ 1954687338211) (hls : e.state.length ≤ 1954687338211) (hle : e.ends.length ≤ 1954687338211) (hri : RightDs e.deeds) (v : Value) (w : World) (hv : EngIn w v e) :
   Calls Tryz.prog 33 #[v] w fun x w' => OwnTold w w' w.heap.size e x := by
 obtain ⟨cb, cn, cc, db, dn, dc, sb, sn, sc, eb, en, ec, rfl, hl⟩ := hv
 have HFIT := hid hf
 have HDL := hid hl.de.len
 have hdn : dn ≤ 1954687338211 := by rw [hl.de.len]; exact hld
 have HSL := hid (Ints.count hl.st)
 have HEL := hid (Ends.count hl.en)
 have hsn : sn ≤ 1954687338211 := by rw [Ints.count hl.st]; exact hls
 have hen : en ≤ 1954687338211 := by rw [Ends.count hl.en]; exact hle
 have HRI : Hid (∀ i, i < dn → RightDD (e.deeds.getD i default)) := fun i hi => rights_at hri (by rw [hl.de.len] at hi; exact hi)
 have HBX := hid (Box.new w #[.slice cb cn cc, .slice db dn dc, .slice sb sn sc, .slice eb en ec, .int .i64 e.base] 33)
 have HB0 := hid (grew w (.cells #[.slice cb cn cc, .slice db dn dc, .slice sb sn sc, .slice eb en ec, .int .i64 e.base] 33))
 have HBZ := hid (Box.new (w.alloc (.cells #[.slice cb cn cc, .slice db dn dc, .slice sb sn sc, .slice eb en ec, .int .i64 e.base] 33)) zeroA 33)
 have HB1 := hid (grew (w.alloc (.cells #[.slice cb cn cc, .slice db dn dc, .slice sb sn sc, .slice eb en ec, .int .i64 e.base] 33)) (.cells zeroA 33))
 rw [World.size_alloc] at HBZ
 have HX := hid (HBX.out.below HB1.out)
 have HBW := hid (below_deep HB0.out HB1.out)
 have HL := hid (hl.below HBW.out)
 clear hf hld hls hle hri hl HBX HB0 HB1
 go_enter Tryz.func33, Tryz.ntmps33
 go_upto_region 1 with fail
 generalize (w.alloc (.cells #[.slice cb cn cc, .slice db dn dc, .slice sb sn sc, .slice eb en ec, .int .i64 e.base] 33)).alloc (.cells zeroA 33) = A at *
 have POW := hid (fun W hc => ownC_calls e.chains cb cn cc W HFIT.out hc)
 have NS : Hid ((0 + sn) * 8 ≤ 140737488355328) := by show _ ≤ _; omega
 have NE : Hid ((0 + en) * 40 ≤ 140737488355328) := by show _ ≤ _; omega
 have hal : w.heap.size + 1 < A.heap.size := HBZ.out.lt
 go_cut [3] (fun pv wx => ∃ blk cb2 cn2 cc2 v2 v3, pv = .pointer (some ⟨blk, 0, none⟩) ∧ A.heap.size ≤ blk ∧ Hid (Box wx blk #[.slice cb2 cn2 cc2, .slice none 0 0, v2, v3, .int .i64 e.base] 33) ∧ Hid (EngOwn wx A.heap.size cb2 cn2 cc2 (.slice none 0 0) v2 v3 ⟨e.chains, [], e.state, e.ends, e.base⟩) ∧ Hid (Below A.heap.size A wx))
 case first =>
   have HN0 : Hid (Box (A.alloc (.cells #[.slice none 0 0, .slice none 0 0, .slice none 0 0, .slice none 0 0, .int .i64 0] 33)).drew A.heap.size #[.slice none 0 0, .slice none 0 0, .slice none 0 0, .slice none 0 0, .int .i64 0] 33) := Box.new A _ _
   have HK : Hid (∀ w', Below A.heap.size A w' → (w'.cell? ⟨w.heap.size, 0, none⟩ = some (.slice cb cn cc) ∧ w'.cell? ⟨w.heap.size, 2, none⟩ = some (.slice sb sn sc) ∧ w'.cell? ⟨w.heap.size, 3, none⟩ = some (.slice eb en ec) ∧ w'.cell? ⟨w.heap.size, 4, none⟩ = some (.int .i64 e.base) ∧ Below A.heap.size A w')) := fun w' hb => ⟨(HX.out.below hb).cell 0 _ rfl, (HX.out.below hb).cell 2 _ rfl, (HX.out.below hb).cell 3 _ rfl, (HX.out.below hb).cell 4 _ rfl, hb⟩
   have HD0 := hid (step_drew (Below.refl A.heap.size A))
   have HD1 := hid (step_drew (step_box (Below.refl A.heap.size A) (.cells #[.slice none 0 0, .slice none 0 0, .slice none 0 0, .slice none 0 0, .int .i64 0] 33)))
   go_region_held3 (fun w' => w'.cell? ⟨w.heap.size, 0, none⟩ = some (.slice cb cn cc) ∧ w'.cell? ⟨w.heap.size, 2, none⟩ = some (.slice sb sn sc) ∧ w'.cell? ⟨w.heap.size, 3, none⟩ = some (.slice eb en ec) ∧ w'.cell? ⟨w.heap.size, 4, none⟩ = some (.int .i64 e.base) ∧ Below A.heap.size A w')
     (first
       | with_reducible exact HK.out _ HD0.out
       | with_reducible exact HK.out _ hb3'
       | with_reducible exact HK.out _ hb2'
       | with_reducible exact HK.out _ hb1'
       | with_reducible exact HK.out _ (five5_below hb3' (by omega))
       | with_reducible exact HK.out _ (step_box hb3' _)
       | with_reducible exact HK.out _ (step_box hb2' _)
       | with_reducible exact HK.out _ (step_box hb1' _)
       | with_reducible exact HK.out _ HD1.out)
     (first
       | (have hsz2 := hb2'.size; refine step_grow _ rfl _ _ 31 83 5 40 _ Tryz.underlying31 doneInfo rfl (by decide) (by decide) rfl A.heap.size (.slice none 0 0) 0 [] rfl (World.ownsRow_nil _ _ _ _) eb en ec (endCells e.ends) rfl ?_ (endCells_one e.ends) NE.out ?_ ?_; (first | with_reducible exact HL.out.en.below (by decide) hb2' | with_reducible exact HL.out.en.below (by decide) (step_box hb2' _)); (first | with_reducible exact hb2'.size | with_reducible exact (step_box hb2' _).size); intro v3 w3 hown3 hg3; have hb3 := grown_nil hg3; have hb3' : Below A.heap.size A w3 := (by first | with_reducible exact below_deep hb2' hb3 | with_reducible exact below_deep (step_box hb2' _) hb3); have hsz3 := hb3'.size; obtain ⟨eb3, ec3, hev, hel⟩ := Lies.owned hown3; subst hev; (first | (have BX : Box w3 A.heap.size #[.slice none 0 0, .slice none 0 0, .slice none 0 0, .slice none 0 0, .int .i64 0] 33 := (by with_reducible exact ((HN0.out.below hb1).below hb2).below hb3); obtain ⟨g0, g1, g2, g3, g4⟩ := BX.cells5; obtain ⟨f0, f1, f2, f3, f4⟩ := BX.free5; have hbl : A.heap.size < w3.heap.size := BX.lt) | (have BX : Box w3 w1.heap.size #[.slice none 0 0, .slice none 0 0, .slice none 0 0, .slice none 0 0, .int .i64 0] 33 := (by with_reducible exact ((Box.new w1 _ _).below hb2).below hb3); obtain ⟨g0, g1, g2, g3, g4⟩ := BX.cells5; obtain ⟨f0, f1, f2, f3, f4⟩ := BX.free5; have hbl : w1.heap.size < w3.heap.size := BX.lt) | (have BX : Box w3 w2.heap.size #[.slice none 0 0, .slice none 0 0, .slice none 0 0, .slice none 0 0, .int .i64 0] 33 := (by with_reducible exact (Box.new w2 _ _).below hb3); obtain ⟨g0, g1, g2, g3, g4⟩ := BX.cells5; obtain ⟨f0, f1, f2, f3, f4⟩ := BX.free5; have hbl : w2.heap.size < w3.heap.size := BX.lt) | skip))
       | (have hsz1 := hb1'.size; refine step_grow _ rfl _ _ 23 3 1 8 _ Tryz.underlying23 intInfo rfl (by decide) (by decide) rfl A.heap.size (.slice none 0 0) 0 [] rfl (World.ownsRow_nil _ _ _ _) sb sn sc (intsC e.state) rfl ?_ (intsC_one e.state) NS.out ?_ ?_; (first | with_reducible exact HL.out.st.below (by decide) hb1' | with_reducible exact HL.out.st.below (by decide) (step_box hb1' _)); (first | with_reducible exact hb1'.size | with_reducible exact (step_box hb1' _).size); intro v2 w2 hown2 hg2; have hb2 := grown_nil hg2; have hb2' : Below A.heap.size A w2 := (by first | with_reducible exact below_deep hb1' hb2 | with_reducible exact below_deep (step_box hb1' _) hb2); obtain ⟨sb2, sc2, hsv, hsl⟩ := Lies.owned hown2; subst hsv)
       | (go_at_call 68; refine (POW.out _ ?_).mono ?_; (first | with_reducible exact HL.out.ch.below HD0.out | with_reducible exact HL.out.ch.below HD1.out); rintro x w1 ⟨v1, S1, rfl, ho1, hs1, hb1⟩; have hb1' : Below A.heap.size A w1 := (by first | with_reducible exact below_deep HD0.out hb1 | with_reducible exact below_deep HD1.out hb1); obtain ⟨cb1, cc1, hcv, hck⟩ := chK_owned ho1 (hs1.are 0); subst hcv))
   all_goals
     have h2 : w2.ownsRow A.heap.size 3 1 (.slice sb2 sn sc2) e.state.length (intsC e.state) := (by rw [← HSL.out]; simpa using hown2)
     have h3 : w3.ownsRow A.heap.size 83 5 (.slice eb3 en ec3) e.ends.length (endCells e.ends) := (by rw [← HEL.out]; simpa using hown3)
     have hb2w : Below w1.heap.size w1 w2 := (by first | with_reducible exact hb2 | with_reducible exact below_deep (grew _ _) hb2)
     have hb3w : Below w2.heap.size w2 w3 := (by first | with_reducible exact hb3 | with_reducible exact below_deep (grew _ _) hb3)
     have HEO := hid (own_made hck hb2w h2 hb3w h3)
     have HB3 := hid hb3'
     clear h2 h3 hb2w hb3w hown2 hown3 hg2 hg3 hel hsl hck ho1 hs1 hb1 hb2 hb3 hb1' hb2' hb3' POW
     go_wp2
     go_meet
   case rel => exact ⟨_, cb1, cn, cc1, _, _, rfl, hsz3, Box.new w3 _ _, HEO.out.below (grew _ _), step_box HB3.out _⟩
   case rel => exact ⟨_, cb1, cn, cc1, _, _, rfl, hsz2, put5_box BX _ _ _ _ _, HEO.out.put BX (put5_off _ _ _ _ _ _ _), put5_below HB3.out hsz2 _ _ _ _ _⟩
   case rel => exact ⟨_, cb1, cn, cc1, _, _, rfl, hsz1, put5_box BX _ _ _ _ _, HEO.out.put BX (put5_off _ _ _ _ _ _ _), put5_below HB3.out hsz1 _ _ _ _ _⟩
   case rel => exact ⟨_, cb1, cn, cc1, _, _, rfl, Nat.le_refl _, put5_box BX _ _ _ _ _, HEO.out.put BX (put5_off _ _ _ _ _ _ _), put5_below HB3.out (Nat.le_refl _) _ _ _ _ _⟩
 case rest =>
   obtain ⟨blk, cb2, cn2, cc2, v2, v3, rfl, hblk, HXB, HEO, HBA2⟩ := hcut
   have HX2 := hid (HX.out.below HBA2.out)
   have x1 := HX2.out.cells5.2.1
   have hx2 : w.heap.size < wc.heap.size := HX2.out.lt
   go_wp2
   go_loopw [21] (fun i wr => ∃ (j : Nat) (v1 : Value), j ≤ dn ∧ i = .int .i64 j ∧ Hid (Box wr blk #[.slice cb2 cn2 cc2, v1, v2, v3, .int .i64 e.base] 33) ∧ Hid (EngOwn wr A.heap.size cb2 cn2 cc2 v1 v2 v3 ⟨e.chains, e.deeds.take j, e.state, e.ends, e.base⟩) ∧ Hid (Below A.heap.size A wr)) (fun i _ => dn - (intOf i).toNat)
   case atStart => exact ⟨0, _, Nat.zero_le _, rfl, HXB, HEO, HBA2⟩
   case round =>
     clear HXB HEO HBA2 HX2 x1 hx2 POW NS NE
     obtain ⟨j, v1, hj, rfl, HXB, HEO, HBR⟩ := hrel
     by_cases hlt : j < dn
     · have hjl : j < e.deeds.length := by rw [← HDL.out]; exact hlt
       have hi : (j : Int) < (dn : Int) := by omega
       obtain ⟨b1, o1, rfl, hrun⟩ : ∃ b1 o1, db = some ⟨b1, o1, none⟩ ∧ ∀ i, i < dn → DeedHere wr b1 (o1 + i * 3) (e.deeds.getD i default) := by
         rcases (HL.out.below HBR.out).de.run with h | h
         · omega
         · exact h
       obtain ⟨rb, rn, rc, wb, wn, wcc, xb, xn, xc, k0, k1, k2, hdi, hs1, hs2⟩ := hrun j hlt
       have hb1w : b1 < wr.heap.size := by simpa using World.block_lt_of_cell? _ _ k0
       have HTK := hid (take_snoc_getD hjl)
       have HRD := hid (HRI.out j hlt)
       have HSM := hid (And.intro hs1 hs2)
       have HFR := hid (few_rights HRD.out hdi)
       have HLJ : Hid ((e.deeds.take j).length = j) := by show _ = _; rw [List.length_take]; omega
       have HDI := hid (hdi.below (grew wr (.cells #[.slice rb rn rc, .slice wb wn wcc, .slice xb xn xc] 44)))
       have HBD := hid (Box.new wr #[.slice rb rn rc, .slice wb wn wcc, .slice xb xn xc] 44)
       have HXA := hid (HXB.out.below (grew wr (.cells #[.slice rb rn rc, .slice wb wn wcc, .slice xb xn xc] 44)))
       have HEA := hid (HEO.out.below (grew wr (.cells #[.slice rb rn rc, .slice wb wn wcc, .slice xb xn xc] 44)))
       have HBA3 := hid (below_deep HBR.out (grew wr (.cells #[.slice rb rn rc, .slice wb wn wcc, .slice xb xn xc] 44)))
       clear hrun hdi hs1 hs2 HXB HEO HBR
       generalize e.deeds.getD j default = d at *
       go_upto_region 5 with fail
       generalize wr.alloc (.cells #[.slice rb rn rc, .slice wb wn wcc, .slice xb xn xc] 44) = A3 at *
       generalize wr.heap.size = bd at *
       obtain ⟨hc, ⟨T, ho, hT⟩, hst, hen2⟩ := HEA.out
       have HOJ : Hid (A3.ownsRow A.heap.size 44 3 v1 j (flat dslotC T)) := by
         have := ho
         simp only [HLJ.out] at this
         exact this
       have c1 := HXA.out.cells5.2.1
       have y0 := HBD.out.cell 0 _ rfl
       have y1 := HBD.out.cell 1 _ rfl
       have y2 := HBD.out.cell 2 _ rfl
       have hxl : blk < A3.heap.size := HXA.out.lt
       have hyl : bd < A3.heap.size := HBD.out.lt
       have HDr := hid (step_drew (Below.refl A3.heap.size A3))
       have N6 : Hid ((j + 1) * 72 ≤ 140737488355328) := by show _ ≤ _; omega
       have POD := hid (fun W hd => own_callsK d.1 d.2.1 d.2.2 rb rn rc wb wn wcc xb xn xc W hd HFR.out.1 HFR.out.2.1 HFR.out.2.2)
       go_region_law (first
         | (go_simp; go_at_call 69; refine (POD.out _ ?_).mono ?_; (with_reducible exact HDI.out.below HDr.out); rintro x w5 ⟨rb5, rc5, wb5, wc5, xb5, xc5, rfl, hdi5, hb5, kr5, kw5, kc5⟩; have hb5' : Below A3.heap.size A3 w5 := (by with_reducible exact below_deep HDr.out hb5); have c1' := (HXA.out.below hb5').cells5.2.1; have hxl' : blk < w5.heap.size := (HXA.out.below hb5').lt)
         | (have hq5 := hb5'.size; refine step_grow _ rfl _ _ 24 44 3 72 _ Tryz.underlying24 deedInfo rfl (by decide) (by decide) rfl A.heap.size v1 j (flat dslotC T) rfl ?_ _ 1 _ [.slice rb5 rn rc5, .slice wb5 wn wc5, .slice xb5 xn xc5] rfl ?_ (dslotC_one ((rb5, rn, rc5), (wb5, wn, wc5), (xb5, xn, xc5))) N6.out ?_ ?_; (exact (owns_keep HOJ.out hb5').alloc _); (exact lies_one w5 _ _ 3 rfl); (exact Nat.le_trans HBA3.out.size (step_box hb5' _).size); intro v6 w6 hown6 hg6; have hbx6 : Box w6 blk #[.slice cb2 cn2 cc2, v1, v2, v3, .int .i64 e.base] 33 := ((HXA.out.below hb5').below (grew w5 (.cells #[.slice rb5 rn rc5, .slice wb5 wn wc5, .slice xb5 xn xc5] 44))).grown hg6 (own_ne ((owns_keep HOJ.out hb5').alloc (.cells #[.slice rb5 rn rc5, .slice wb5 wn wc5, .slice xb5 xn xc5] 44)) ((HXA.out.below hb5').below (grew w5 (.cells #[.slice rb5 rn rc5, .slice wb5 wn wc5, .slice xb5 xn xc5] 44))) (by decide)); have g1 := hbx6.cells5.2.1; have f1 := hbx6.free 1; have hl6 : blk < w6.heap.size := hbx6.lt; obtain ⟨db6, dc6, hdv, hdl⟩ := Lies.owned hown6; subst hdv))
       all_goals
         have hown6' : w6.ownsRow A.heap.size 44 3 (.slice db6 (j + 1) dc6) ((e.deeds.take j).length + 1) (flat dslotC T ++ dslotC ((rb5, rn, rc5), (wb5, wn, wc5), (xb5, xn, xc5))) := (by rw [HLJ.out]; exact hown6)
         have HF := hid (own_deeds (e := ⟨e.chains, e.deeds.take j, e.state, e.ends, e.base⟩) (s := ((rb5, rn, rc5), (wb5, wn, wc5), (xb5, xn, xc5))) (d := d) ((HXA.out.below hb5').below (grew w5 (.cells #[.slice rb5 rn rc5, .slice wb5 wn wc5, .slice xb5 xn xc5] 44))) ((hc.below hb5').below (grew w5 (.cells #[.slice rb5 rn rc5, .slice wb5 wn wc5, .slice xb5 xn xc5] 44))) ((owns_keep ho hb5').alloc (.cells #[.slice rb5 rn rc5, .slice wb5 wn wc5, .slice xb5 xn xc5] 44)) ((hT.below hb5').below (grew w5 (.cells #[.slice rb5 rn rc5, .slice wb5 wn wc5, .slice xb5 xn xc5] 44))) ((owns_keep hst hb5').alloc (.cells #[.slice rb5 rn rc5, .slice wb5 wn wc5, .slice xb5 xn xc5] 44)) ((owns_keep hen2 hb5').alloc (.cells #[.slice rb5 rn rc5, .slice wb5 wn wc5, .slice xb5 xn xc5] 44)) ⟨⟨hdi5.below (grew w5 (.cells #[.slice rb5 rn rc5, .slice wb5 wn wc5, .slice xb5 xn xc5] 44)), HSM.out⟩, kr5.below (grew w5 (.cells #[.slice rb5 rn rc5, .slice wb5 wn wc5, .slice xb5 xn xc5] 44)), kw5.below (grew w5 (.cells #[.slice rb5 rn rc5, .slice wb5 wn wc5, .slice xb5 xn xc5] 44)), kc5.below (grew w5 (.cells #[.slice rb5 rn rc5, .slice wb5 wn wc5, .slice xb5 xn xc5] 44))⟩ hown6' hg6)
         have HB6 := hid ((step_row (step_box (below_deep HBA3.out hb5') (.cells #[.slice rb5 rn rc5, .slice wb5 wn wc5, .slice xb5 xn xc5] 44)) ((owns_keep HOJ.out hb5').alloc (.cells #[.slice rb5 rn rc5, .slice wb5 wn wc5, .slice xb5 xn xc5] 44)) hg6).setCell (p := ⟨blk, 1, none⟩) hblk (.slice db6 (j + 1) dc6))
         clear hown6 hown6' hg6 hdi5 hb5 hb5' kr5 kw5 kc5 hdl hbx6 hc ho hT hst hen2 POD
         go_wp2
         go_roundw
         case rel =>
           refine ⟨j + 1, _, hlt, by simp, HF.out.2.1, ?_, HB6⟩
           show EngOwn _ _ _ _ _ _ _ _ _
           rw [HTK.out]
           exact HF.out.2.2
         case measure => simp [intOf]; omega
     · have ej : j = dn := by omega
       subst ej
       have HTD : Hid (e.deeds.take j = e.deeds) := by show _ = _; rw [HDL.out]; exact List.take_length
       have HEE : Hid (EngOwn wr A.heap.size cb2 cn2 cc2 v1 v2 v3 e) := by
         have := HEO.out
         rw [HTD.out] at this
         exact this
       clear HEO HTD
       obtain ⟨db7, dc7, sb7, sc7, eb7, ec7, rfl, rfl, rfl, _⟩ := HEE.out.lies
       have HZ := hid (HBZ.out.below HBR.out)
       obtain ⟨x0, x1, x2, x3, x4⟩ := HXB.out.cells5
       obtain ⟨z0, z1, z2, z3, z4⟩ := HZ.out.cells5
       obtain ⟨f0, f1, f2, f3, f4⟩ := HZ.out.free5
       have hlw : w.heap.size + 1 < wr.heap.size := HZ.out.lt
       have hlb : blk < wr.heap.size := HXB.out.lt
       have hge : ¬ ((j : Int) < (j : Int)) := by omega
       have HBF := hid (put5_box HZ.out (.slice cb2 cn2 cc2) (.slice db7 e.deeds.length dc7) (.slice sb7 e.state.length sc7) (.slice eb7 e.ends.length ec7) (.int .i64 e.base))
       have HEF := hid ((HEE.out.put HZ.out (put5_off wr (w.heap.size + 1) (.slice cb2 cn2 cc2) (.slice db7 e.deeds.length dc7) (.slice sb7 e.state.length sc7) (.slice eb7 e.ends.length ec7) (.int .i64 e.base))).lower HBW.out.size)
       have HBL := hid (put5_below (below_deep HBW.out HBR.out) (Nat.le_succ _) (.slice cb2 cn2 cc2) (.slice db7 e.deeds.length dc7) (.slice sb7 e.state.length sc7) (.slice eb7 e.ends.length ec7) (.int .i64 e.base))
       go_wp2
       refine bodyPost_ret (planOwn_results _ (w.heap.size + 1) _ rfl HBF.out) rfl ?_
       exact ⟨_, _, _, _, _, _, rfl, HEF.out, HBL.out⟩
theorem planOwn_calls {r0 : List Row} {D : List Deed3} {m : Nat} {dq : Nat → Bool} {bq : ByteArray → Int} {e : Eng} (G : Good r0 D m dq bq e) (hD : D.length ≤ 1954687338211) (v : Value) (w : World) (hv : EngIn w v e) :
   Calls Tryz.prog 33 #[v] w fun x w' => OwnTold w w' w.heap.size e x := by
 have h1 := G.len
 have h2 := G.slen
 have h3 := G.elen
 exact planOwnF_calls (G.fit hD) (by omega) (by omega) (by omega) (by rw [G.deeds]; exact fun d hd => G.right d (List.mem_of_mem_drop hd)) v w hv
end Go.Proofs.YtlhaeeenkgkdaaaGreatDoor
