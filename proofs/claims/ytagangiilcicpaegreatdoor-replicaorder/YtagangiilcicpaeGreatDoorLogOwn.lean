/-
  Own of the program's log: a copy in memory of its own, walked.
-/
import Derived.Test.YtagangiilcicpaeGreatDoorOpenEnts
import Derived.Test.YtagangiilcicpaeGreatDoorPlanOwn
namespace Go.Proofs.YtagangiilcicpaeGreatDoor
open Go.RowKit

theorem entInfo : (Tryz.prog.info? 24).map (fun i => (i.zero, i.size, i.bytes)) = some (some (.agg #[.int .i64 0, .slice none 0 0]), 2, 32) := by kernel_rfl

/-! ### Deeds -/
theorem deeds_grow {w wr w5 w6 : World} {j : Nat} {v1 v6 : Value} {T : List DSlot} {L : List Deed3} {s : DSlot} {d : Deed3} (o : Obj) (HO : wr.ownsRow w.heap.size 59 3 v1 j (flat dslotC T)) (HT : DSlotsK wr T L) (HB : Below w.heap.size w wr)
    (hb5 : Below wr.heap.size wr w5) (hs : DSlotK w5 s d) (h6 : w6.ownsRow w.heap.size 59 3 v6 (j + 1) (flat dslotC T ++ dslotC s)) (hg : (w5.alloc o).grownBy w6 v1.ownBlock) :
    w6.ownsRow w.heap.size 59 3 v6 (j + 1) (flat dslotC (T ++ [s])) ∧ DSlotsK w6 (T ++ [s]) (L ++ [d]) ∧ Below w.heap.size w w6 := by
  have ho5 := (owns_keep HO hb5).alloc o
  have hb := step_box (below_deep HB hb5) o
  refine ⟨by rw [flat_snoc]; exact h6, ?_, step_row hb ho5 hg⟩
  exact (((HT.below hb5).below (grew w5 o)).grown ho5 (by decide) (by decide) hg).snoc ((hs.below (grew w5 o)).grown ho5 (by decide) (by decide) hg)

set_option maxHeartbeats 4000000 in
set_option maxRecDepth 100000 in
theorem ownDeeds_calls (D : List Deed3) (db : Option Addr) (dn dc : Nat) (w : World) (hn : dn ≤ 1048576) (hf : FewD 1048576 D) (hd : DeedsIn w db dn dc D) :
    Calls Tryz.prog 51 #[.slice db dn dc] w fun e w' => ∃ b' c' T, e = .returned (.slice b' dn c') ∧ Lies w' 3 b' dn c' (flat dslotC T) ∧ DSlotsK w' T D ∧ Kind w' 59 b' ∧ Below w.heap.size w w' := by
  have HLN := hid hd.len
  have HD := hid hd
  have HF := hid hf
  clear hd hf
  go_enter Tryz.func51, Tryz.ntmps51
  go_wp2
  go_loopw [3, 8] (fun pv i wr => ∃ (j : Nat) (T : List DSlot), j ≤ dn ∧ i = .int .i64 j ∧ Hid (wr.ownsRow w.heap.size 59 3 pv j (flat dslotC T)) ∧ Hid (DSlotsK wr T (D.take j)) ∧ Hid (Below w.heap.size w wr)) (fun _ i _ => dn - (intOf i).toNat)
  case atStart => exact ⟨0, [], Nat.zero_le _, rfl, World.ownsRow_nil _ _ _ _, DSlotsK.nil _, Below.refl _ _⟩
  case round =>
    obtain ⟨j, T, hj, rfl, HO, HT, HBR⟩ := hrel
    by_cases hlt : j < dn
    · have hjl : j < D.length := by rw [← HLN.out]; exact hlt
      have hi : (j : Int) < (dn : Int) := by omega
      rcases (HD.out.below HBR.out).run with h | ⟨db1, dbo, rfl, hdr⟩
      · omega
      obtain ⟨rb, rn, rc, wb, wn, wc, cb, cn, cc, k0, k1, k2, hdi, hs1, hs2⟩ := hdr j hlt
      have hdb : db1 < wr.heap.size := by simpa using World.block_lt_of_cell? _ _ k0
      have hfew := HF.out j hjl
      have e1 := Texts.count hdi.tr
      have e2 := Texts.count hdi.tw
      have e3 := Codes.count hdi.cd
      have HGW := hid (grew wr (.cells #[.slice rb rn rc, .slice wb wn wc, .slice cb cn cc] 59))
      have HW := hid (own_callsK (D.getD j default).1 (D.getD j default).2.1 (D.getD j default).2.2 rb rn rc wb wn wc cb cn cc _ (hdi.below HGW.out) (by omega) (by omega) (by omega))
      have HTK := hid (take_snoc_getD hjl)
      have HSM := hid (And.intro hs1 hs2)
      have N : Hid ((j + 1) * 72 ≤ 140737488355328) := by show _ ≤ _; omega
      clear hdi hs1 hs2 hdr hfew e1 e2 e3
      generalize D.getD j default = d at *
      go_wp2_with fail
      refine HW.out.mono ?_
      rintro e w5 ⟨rb5, rc5, wb5, wc5, cb5, cc5, rfl, hdi5, hb5, kr5, kw5, kc5⟩
      have HB5 := hid (below_deep HGW.out hb5)
      have HS5 : Hid (DSlotK w5 ((rb5, rn, rc5), (wb5, wn, wc5), (cb5, cn, cc5)) d) := ⟨⟨hdi5, HSM.out⟩, kr5, kw5, kc5⟩
      have HO5 := hid ((owns_keep HO.out HB5.out).alloc (.cells #[.slice rb5 rn rc5, .slice wb5 wn wc5, .slice cb5 cn cc5] 59))
      have L5 := hid (lies_one w5 #[.slice rb5 rn rc5, .slice wb5 wn wc5, .slice cb5 cn cc5] 59 3 rfl)
      have O5 := hid (dslotC_one ((rb5, rn, rc5), (wb5, wn, wc5), (cb5, cn, cc5)))
      have SZ5 := hid (Nat.le_trans HBR.out.size (step_box HB5.out (.cells #[.slice rb5 rn rc5, .slice wb5 wn wc5, .slice cb5 cn cc5] 59)).size)
      clear hdi5 hb5 kr5 kw5 kc5 HW k0 k1 k2 hdb
      go_wp2_with (at_builtin; refine wpList_onto _ rfl _ _ 22 59 3 72 _ Tryz.underlying22 deedInfo rfl (by decide) (by decide) rfl w.heap.size _ j (flat dslotC T) rfl HO5.out _ 1 _ _ rfl L5.out O5.out N.out SZ5.out ?_)
      intro v6 w6 hown6 hg6
      have HX := hid (deeds_grow _ HO.out HT.out HBR.out HB5.out HS5.out hown6 hg6)
      clear hown6 hg6 HO5 L5 O5 SZ5 HS5 HB5 HO HT
      go_wp2
      go_roundw
      case rel => exact ⟨j + 1, _, hlt, by go_num, HX.out.1, by rw [HTK.out]; exact HX.out.2.1, HX.out.2.2⟩
      case measure => simp [intOf]; omega
    · obtain rfl : j = dn := by omega
      have HTD : Hid (DSlotsK wr T D) := by
        have := HT.out
        rw [HLN.out, List.take_length] at this
        exact this
      obtain ⟨b', c', rfl, hl⟩ := Lies.owned HO.out
      have HL := hid (And.intro hl (Kind.owned HO.out))
      clear hl
      go_wp2
      go_ret
      exact ⟨_, _, T, rfl, HL.out.1, HTD.out, HL.out.2, HBR.out⟩

/-! ### Entries -/
def ESlotK (w : World) (s : ESlot) (x : Ent) : Prop := s.1 = x.1 ∧ Kind w 59 s.2.1 ∧ ∃ T, Lies w 3 s.2.1 s.2.2.1 s.2.2.2 (flat dslotC T) ∧ DSlotsK w T x.2
theorem ESlotK.below {w w' : World} {s : ESlot} {x : Ent} (h : ESlotK w s x) (hb : Below w.heap.size w w') : ESlotK w' s x := by
  obtain ⟨h1, h2, T, h3, h4⟩ := h
  exact ⟨h1, h2.below hb, T, h3.below (by decide) hb, h4.below hb⟩
theorem ESlotK.grown {w w' : World} {B m : Nat} {v : Value} {xs : List Value} {s : ESlot} {x : Ent} (h : ESlotK w s x) (ho : w.ownsRow B 24 2 v m xs) (hg : w.grownBy w' v.ownBlock) : ESlotK w' s x := by
  obtain ⟨h1, h2, T, h3, h4⟩ := h
  exact ⟨h1, kind_grown h2 ho (by decide) hg, T, lies_grownK (by decide) h3 h2 ho (by decide) hg, h4.grown ho (by decide) (by decide) hg⟩
theorem ESlotK.is {w : World} {s : ESlot} {x : Ent} (h : ESlotK w s x) : ESlotIs w s x := by
  obtain ⟨h1, _, T, h3, h4⟩ := h
  exact ⟨h1, deeds_of_slots h3 h4.are⟩
def ESlotsK (w : World) (S : List ESlot) (L : List Ent) : Prop := S.length = L.length ∧ ∀ i, i < L.length → ESlotK w (S.getD i default) (L.getD i default)
theorem ESlotsK.nil (w : World) : ESlotsK w [] [] := ⟨rfl, fun _ h => absurd h (Nat.not_lt_zero _)⟩
theorem ESlotsK.below {w w' : World} {S : List ESlot} {L : List Ent} (h : ESlotsK w S L) (hb : Below w.heap.size w w') : ESlotsK w' S L := ⟨h.1, fun i hi => (h.2 i hi).below hb⟩
theorem ESlotsK.grown {w w' : World} {B m : Nat} {v : Value} {xs : List Value} {S : List ESlot} {L : List Ent} (h : ESlotsK w S L) (ho : w.ownsRow B 24 2 v m xs) (hg : w.grownBy w' v.ownBlock) : ESlotsK w' S L := ⟨h.1, fun i hi => (h.2 i hi).grown ho hg⟩
theorem ESlotsK.are {w : World} {S : List ESlot} {L : List Ent} (h : ESlotsK w S L) : ESlotsAre w S L := ⟨h.1, fun i hi => (h.2 i hi).is⟩
theorem ESlotsK.snoc {w : World} {S : List ESlot} {L : List Ent} {s : ESlot} {x : Ent} (h : ESlotsK w S L) (hs : ESlotK w s x) : ESlotsK w (S ++ [s]) (L ++ [x]) := by
  refine ⟨by simp [h.1], fun i hi => ?_⟩
  by_cases e : i < L.length
  · have e' : i < S.length := by rw [h.1]; exact e
    have := h.2 i e
    simpa [List.getD, List.getElem?_append_left e, List.getElem?_append_left e'] using this
  · have hi' : i = L.length := by simp at hi; omega
    subst hi'
    have e1 : (S ++ [s]).getD L.length default = s := by rw [← h.1]; simp [List.getD]
    have e2 : (L ++ [x]).getD L.length default = x := by simp [List.getD]
    rw [e1, e2]; exact hs
theorem ents_grow {w wr w5 w6 : World} {j : Nat} {v1 v6 : Value} {S : List ESlot} {L : List Ent} {s : ESlot} {x : Ent} (o : Obj) (HO : wr.ownsRow w.heap.size 24 2 v1 j (flat eslotC S)) (HT : ESlotsK wr S L) (HB : Below w.heap.size w wr)
    (hb5 : Below wr.heap.size wr w5) (hs : ESlotK w5 s x) (h6 : w6.ownsRow w.heap.size 24 2 v6 (j + 1) (flat eslotC S ++ eslotC s)) (hg : (w5.alloc o).grownBy w6 v1.ownBlock) :
    w6.ownsRow w.heap.size 24 2 v6 (j + 1) (flat eslotC (S ++ [s])) ∧ ESlotsK w6 (S ++ [s]) (L ++ [x]) ∧ Below w.heap.size w w6 := by
  have ho5 := (owns_keep HO hb5).alloc o
  have hb := step_box (below_deep HB hb5) o
  refine ⟨by rw [flat_snoc]; exact h6, ?_, step_row hb ho5 hg⟩
  exact (((HT.below hb5).below (grew w5 o)).grown ho5 hg).snoc ((hs.below (grew w5 o)).grown ho5 hg)

set_option maxHeartbeats 8000000 in
set_option maxRecDepth 100000 in
theorem logOwn_callsO (L : List Ent) (eb : Option Addr) (en ec : Nat) (w : World) (hn : en ≤ 1048576) (hf : FewE 1048576 L) (hd : EntsIn w eb en ec L) :
    Calls Tryz.prog 25 #[.slice eb en ec] w fun e w' => ∃ v S, e = .returned v ∧ w'.ownsRow w.heap.size 24 2 v en (flat eslotC S) ∧ ESlotsK w' S L ∧ Below w.heap.size w w' := by
  have HLN := hid hd.len
  have HD := hid hd
  have HF := hid hf
  clear hd hf
  go_enter Tryz.func25, Tryz.ntmps25
  go_wp2
  go_loopw [3, 8] (fun pv i wr => ∃ (j : Nat) (S : List ESlot), j ≤ en ∧ i = .int .i64 j ∧ Hid (wr.ownsRow w.heap.size 24 2 pv j (flat eslotC S)) ∧ Hid (ESlotsK wr S (L.take j)) ∧ Hid (Below w.heap.size w wr)) (fun _ i _ => en - (intOf i).toNat)
  case atStart => exact ⟨0, [], Nat.zero_le _, rfl, World.ownsRow_nil _ _ _ _, ESlotsK.nil _, Below.refl _ _⟩
  case round =>
    obtain ⟨j, S, hj, rfl, HO, HT, HBR⟩ := hrel
    by_cases hlt : j < en
    · have hjl : j < L.length := by rw [← HLN.out]; exact hlt
      have hi : (j : Int) < (en : Int) := by omega
      rcases (HD.out.below HBR.out).run with h | ⟨eb1, ebo, rfl, hdr⟩
      · omega
      obtain ⟨db, dn, dc, k0, k1, hdi⟩ := hdr j hlt
      have heb : eb1 < wr.heap.size := by simpa using World.block_lt_of_cell? _ _ k0
      have hfew := HF.out j hjl
      have e1 := hdi.len
      have HGW := hid (grew wr (.cells #[.int .i64 (L.getD j default).1, .slice db dn dc] 24))
      have HDI := hid (hdi.below HGW.out)
      have HW := hid (fun W h => ownDeeds_calls (L.getD j default).2 db dn dc W (by omega) hfew.2 h)
      have HTK := hid (take_snoc_getD hjl)
      have N : Hid ((j + 1) * 32 ≤ 140737488355328) := by show _ ≤ _; omega
      have y0 := box_cell wr #[.int .i64 (L.getD j default).1, .slice db dn dc] 24 0 _ rfl
      have y1 := box_cell wr #[.int .i64 (L.getD j default).1, .slice db dn dc] 24 1 _ rfl
      clear hdi hdr hfew e1
      generalize L.getD j default = x at *
      obtain ⟨m, D⟩ := x
      simp only at HGW HDI HW y0 y1 k0 ⊢
      go_upto_region 5 with fail
      have HBA := hid (below_deep HBR.out HGW.out)
      have HOA := hid (owns_keep HO.out HGW.out)
      have HTA := hid (HT.out.below HGW.out)
      have hbd : wr.heap.size < (wr.alloc (.cells #[.int .i64 m, .slice db dn dc] 24)).heap.size := by rw [World.size_alloc]; omega
      clear k0 k1 heb HO HT HBR HGW
      generalize wr.alloc (.cells #[.int .i64 m, .slice db dn dc] 24) = A at *
      generalize wr.heap.size = bd at *
      have HDr := hid (step_drew (Below.refl A.heap.size A))
      go_region_law (first
        | (go_simp; go_at_call 51; refine (HW.out _ ?_).mono ?_; (with_reducible exact HDI.out.below HDr.out); rintro e w5 ⟨b5, c5, T5, rfl, hl5, hd5, hk5, hb5⟩; have hb5' : Below A.heap.size A w5 := (by with_reducible exact below_deep HDr.out hb5); have z0 := kept_cell hb5' y0; have z1 := kept_cell hb5' y1; have hbd' := Nat.lt_of_lt_of_le hbd hb5'.size)
        | (have hq5 := hb5'.size; refine step_grow _ rfl _ _ 33 24 2 32 _ Tryz.underlying33 entInfo rfl (by decide) (by decide) rfl w.heap.size _ j (flat eslotC S) rfl ?_ _ 1 _ [.int .i64 m, .slice b5 dn c5] rfl ?_ (eslotC_one (m, b5, dn, c5)) N.out ?_ ?_; (exact (owns_keep HOA.out hb5').alloc _); (exact lies_one w5 _ _ 2 rfl); (exact Nat.le_trans HBA.out.size (step_box hb5' _).size); intro v6 w6 hown6 hg6))
      all_goals
        have HX := hid (ents_grow (s := (m, b5, dn, c5)) (x := (m, D)) _ HOA.out HTA.out HBA.out hb5' ⟨rfl, hk5, T5, hl5, hd5⟩ hown6 hg6)
        clear hown6 hg6 hl5 hd5 hk5 hb5 hb5'
        go_wp2
        go_roundw
        case rel => exact ⟨j + 1, _, hlt, by go_num, HX.out.1, by rw [HTK.out]; exact HX.out.2.1, HX.out.2.2⟩
        case measure => simp [intOf]; omega
    · obtain rfl : j = en := by omega
      have HTD : Hid (ESlotsK wr S L) := by
        have := HT.out
        rw [HLN.out, List.take_length] at this
        exact this
      obtain ⟨b', c', rfl, hl⟩ := Lies.owned HO.out
      clear hl
      go_wp2
      go_ret
      exact ⟨_, S, rfl, HO.out, HTD.out, HBR.out⟩
end Go.Proofs.YtagangiilcicpaeGreatDoor
