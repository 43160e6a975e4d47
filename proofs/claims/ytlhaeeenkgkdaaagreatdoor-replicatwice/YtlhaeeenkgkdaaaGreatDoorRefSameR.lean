/-
  Own of the program's log: a copy in memory of its own, walked.
  Plain mathematics of how the document looks through the entries that came too soon.
  The document's own SameChains, walked: of two lists of the same chains it answers true.
  The document's own SameInts, SameTexts, SameDeeds and SameEngine, of what is the same, walked.
  The document's SameEntries, of what is the same, walked.
  The document's SameReplica, of what is the same, walked.
-/
import Derived.Test.YtlhaeeenkgkdaaaGreatDoorOpenEnts
import Derived.Test.YtlhaeeenkgkdaaaGreatDoorPlanOwn
import Derived.Test.YtlhaeeenkgkdaaaGreatDoorRepFinds
import Derived.Test.YtlhaeeenkgkdaaaGreatDoorChainAt
import Derived.Test.YtlhaeeenkgkdaaaGreatDoorEngGood
import Derived.Test.YtlhaeeenkgkdaaaGreatDoorRefNew
import Derived.Test.YtlhaeeenkgkdaaaGreatDoorRefPut
import Derived.Test.YtlhaeeenkgkdaaaGreatDoorEngSet
import Derived.Deep.DeepCutAuto
namespace Go.Proofs.YtlhaeeenkgkdaaaGreatDoor
open Go.RowKit

theorem entInfo : (Tryz.prog.info? 26).map (fun i => (i.zero, i.size, i.bytes)) = some (some (.agg #[.int .i64 0, .slice none 0 0]), 2, 32) := by kernel_rfl

theorem deeds_grow {w wr w5 w6 : World} {j : Nat} {v1 v6 : Value} {T : List DSlot} {L : List Deed3} {s : DSlot} {d : Deed3} (o : Obj) (HO : wr.ownsRow w.heap.size 44 3 v1 j (flat dslotC T)) (HT : DSlotsK wr T L) (HB : Below w.heap.size w wr)
   (hb5 : Below wr.heap.size wr w5) (hs : DSlotK w5 s d) (h6 : w6.ownsRow w.heap.size 44 3 v6 (j + 1) (flat dslotC T ++ dslotC s)) (hg : (w5.alloc o).grownBy w6 v1.ownBlock) :
   w6.ownsRow w.heap.size 44 3 v6 (j + 1) (flat dslotC (T ++ [s])) ∧ DSlotsK w6 (T ++ [s]) (L ++ [d]) ∧ Below w.heap.size w w6 := by
 have ho5 := (owns_keep HO hb5).alloc o
 have hb := step_box (below_deep HB hb5) o
 refine ⟨by rw [flat_snoc]; exact h6, ?_, step_row hb ho5 hg⟩
 exact (((HT.below hb5).below (grew w5 o)).grown ho5 (by decide) (by decide) hg).snoc ((hs.below (grew w5 o)).grown ho5 (by decide) (by decide) hg)

set_option maxHeartbeats 4000000 in
set_option maxRecDepth 100000 in
theorem ownDeeds_calls (D : List Deed3) (db : Option Addr) (dn dc : Nat) (w : World) (hn : dn ≤ 1048576) (hf : FewD 1048576 D) (hd : DeedsIn w db dn dc D) :
   Calls Tryz.prog 74 #[.slice db dn dc] w fun e w' => ∃ b' c' T, e = .returned (.slice b' dn c') ∧ Lies w' 3 b' dn c' (flat dslotC T) ∧ DSlotsK w' T D ∧ Kind w' 44 b' ∧ Below w.heap.size w w' := by
 have HLN := hid hd.len
 have HD := hid hd
 have HF := hid hf
 clear hd hf
 go_enter Tryz.func74, Tryz.ntmps74
 go_wp2
 go_loopw [3, 8] (fun pv i wr => ∃ (j : Nat) (T : List DSlot), j ≤ dn ∧ i = .int .i64 j ∧ Hid (wr.ownsRow w.heap.size 44 3 pv j (flat dslotC T)) ∧ Hid (DSlotsK wr T (D.take j)) ∧ Hid (Below w.heap.size w wr)) (fun _ i _ => dn - (intOf i).toNat)
 case atStart => exact ⟨0, [], Nat.zero_le _, rfl, World.ownsRow_nil _ _ _ _, DSlotsK.nil _, Below.refl _ _⟩
 case round =>
   obtain ⟨j, T, hj, rfl, HO, HT, HBR⟩ := hrel
   by_cases hlt : j < dn
   · have hjl : j < D.length := by rw [← HLN.out]; exact hlt
     have hi : (j : Int) < (dn : Int) := by omega
     rcases (HD.out.below HBR.out).run with h | ⟨db1, dbo, rfl, hdr⟩
     · omega
     obtain ⟨rb, rn, rc, wb, wn, wc, cb, cn, cc, k0, k1, k2, hdi, hs1, hs2⟩ := hdr j hlt
     have hdb : db1 < wr.heap.size := by simpa using World.block_lt_of_cell? _ _ k0
     have hfew := HF.out j hjl
     have e1 := Texts.count hdi.tr
     have e2 := Texts.count hdi.tw
     have e3 := Codes.count hdi.cd
     have HGW := hid (grew wr (.cells #[.slice rb rn rc, .slice wb wn wc, .slice cb cn cc] 44))
     have HW := hid (own_callsK (D.getD j default).1 (D.getD j default).2.1 (D.getD j default).2.2 rb rn rc wb wn wc cb cn cc _ (hdi.below HGW.out) (by omega) (by omega) (by omega))
     have HTK := hid (take_snoc_getD hjl)
     have HSM := hid (And.intro hs1 hs2)
     have N : Hid ((j + 1) * 72 ≤ 140737488355328) := by show _ ≤ _; omega
     clear hdi hs1 hs2 hdr hfew e1 e2 e3
     generalize D.getD j default = d at *
     go_wp2_with fail
     refine HW.out.mono ?_
     rintro e w5 ⟨rb5, rc5, wb5, wc5, cb5, cc5, rfl, hdi5, hb5, kr5, kw5, kc5⟩
     have HB5 := hid (below_deep HGW.out hb5)
     have HS5 : Hid (DSlotK w5 ((rb5, rn, rc5), (wb5, wn, wc5), (cb5, cn, cc5)) d) := ⟨⟨hdi5, HSM.out⟩, kr5, kw5, kc5⟩
     have HO5 := hid ((owns_keep HO.out HB5.out).alloc (.cells #[.slice rb5 rn rc5, .slice wb5 wn wc5, .slice cb5 cn cc5] 44))
     have L5 := hid (lies_one w5 #[.slice rb5 rn rc5, .slice wb5 wn wc5, .slice cb5 cn cc5] 44 3 rfl)
     have O5 := hid (dslotC_one ((rb5, rn, rc5), (wb5, wn, wc5), (cb5, cn, cc5)))
     have SZ5 := hid (Nat.le_trans HBR.out.size (step_box HB5.out (.cells #[.slice rb5 rn rc5, .slice wb5 wn wc5, .slice cb5 cn cc5] 44)).size)
     clear hdi5 hb5 kr5 kw5 kc5 HW k0 k1 k2 hdb
     go_wp2_with (at_builtin; refine wpList_onto _ rfl _ _ 24 44 3 72 _ Tryz.underlying24 deedInfo rfl (by decide) (by decide) rfl w.heap.size _ j (flat dslotC T) rfl HO5.out _ 1 _ _ rfl L5.out O5.out N.out SZ5.out ?_)
     intro v6 w6 hown6 hg6
     have HX := hid (deeds_grow _ HO.out HT.out HBR.out HB5.out HS5.out hown6 hg6)
     clear hown6 hg6 HO5 L5 O5 SZ5 HS5 HB5 HO HT
     go_wp2
     go_roundw
     case rel => exact ⟨j + 1, _, hlt, by go_num, HX.out.1, by rw [HTK.out]; exact HX.out.2.1, HX.out.2.2⟩
     case measure => simp [intOf]; omega
   · obtain rfl : j = dn := by omega
     have HTD : Hid (DSlotsK wr T D) := by
       have := HT.out
       rw [HLN.out, List.take_length] at this
       exact this
     obtain ⟨b', c', rfl, hl⟩ := Lies.owned HO.out
     have HL := hid (And.intro hl (Kind.owned HO.out))
     clear hl
     go_wp2
     go_ret
     exact ⟨_, _, T, rfl, HL.out.1, HTD.out, HL.out.2, HBR.out⟩

def ESlotK (w : World) (s : ESlot) (x : Ent) : Prop := s.1 = x.1 ∧ Kind w 44 s.2.1 ∧ ∃ T, Lies w 3 s.2.1 s.2.2.1 s.2.2.2 (flat dslotC T) ∧ DSlotsK w T x.2
theorem ESlotK.below {w w' : World} {s : ESlot} {x : Ent} (h : ESlotK w s x) (hb : Below w.heap.size w w') : ESlotK w' s x := by
 obtain ⟨h1, h2, T, h3, h4⟩ := h
 exact ⟨h1, h2.below hb, T, h3.below (by decide) hb, h4.below hb⟩
theorem ESlotK.grown {w w' : World} {B m : Nat} {v : Value} {xs : List Value} {s : ESlot} {x : Ent} (h : ESlotK w s x) (ho : w.ownsRow B 26 2 v m xs) (hg : w.grownBy w' v.ownBlock) : ESlotK w' s x := by
 obtain ⟨h1, h2, T, h3, h4⟩ := h
 exact ⟨h1, kind_grown h2 ho (by decide) hg, T, lies_grownK (by decide) h3 h2 ho (by decide) hg, h4.grown ho (by decide) (by decide) hg⟩
theorem ESlotK.is {w : World} {s : ESlot} {x : Ent} (h : ESlotK w s x) : ESlotIs w s x := by
 obtain ⟨h1, _, T, h3, h4⟩ := h
 exact ⟨h1, deeds_of_slots h3 h4.are⟩
def ESlotsK (w : World) (S : List ESlot) (L : List Ent) : Prop := S.length = L.length ∧ ∀ i, i < L.length → ESlotK w (S.getD i default) (L.getD i default)
theorem ESlotsK.nil (w : World) : ESlotsK w [] [] := ⟨rfl, fun _ h => absurd h (Nat.not_lt_zero _)⟩
theorem ESlotsK.below {w w' : World} {S : List ESlot} {L : List Ent} (h : ESlotsK w S L) (hb : Below w.heap.size w w') : ESlotsK w' S L := ⟨h.1, fun i hi => (h.2 i hi).below hb⟩
theorem ESlotsK.grown {w w' : World} {B m : Nat} {v : Value} {xs : List Value} {S : List ESlot} {L : List Ent} (h : ESlotsK w S L) (ho : w.ownsRow B 26 2 v m xs) (hg : w.grownBy w' v.ownBlock) : ESlotsK w' S L := ⟨h.1, fun i hi => (h.2 i hi).grown ho hg⟩
theorem ESlotsK.are {w : World} {S : List ESlot} {L : List Ent} (h : ESlotsK w S L) : ESlotsAre w S L := ⟨h.1, fun i hi => (h.2 i hi).is⟩
theorem ESlotsK.snoc {w : World} {S : List ESlot} {L : List Ent} {s : ESlot} {x : Ent} (h : ESlotsK w S L) (hs : ESlotK w s x) : ESlotsK w (S ++ [s]) (L ++ [x]) := by
 refine ⟨by simp [h.1], fun i hi => ?_⟩
 by_cases e : i < L.length
 · have e' : i < S.length := by rw [h.1]; exact e
   have := h.2 i e
   simpa [List.getD, List.getElem?_append_left e, List.getElem?_append_left e'] using this
 · have hi' : i = L.length := by simp at hi; omega
   subst hi'
   have e1 : (S ++ [s]).getD L.length default = s := by rw [← h.1]; simp [List.getD]
   have e2 : (L ++ [x]).getD L.length default = x := by simp [List.getD]
   rw [e1, e2]; exact hs
theorem ents_grow {w wr w5 w6 : World} {j : Nat} {v1 v6 : Value} {S : List ESlot} {L : List Ent} {s : ESlot} {x : Ent} (o : Obj) (HO : wr.ownsRow w.heap.size 26 2 v1 j (flat eslotC S)) (HT : ESlotsK wr S L) (HB : Below w.heap.size w wr)
   (hb5 : Below wr.heap.size wr w5) (hs : ESlotK w5 s x) (h6 : w6.ownsRow w.heap.size 26 2 v6 (j + 1) (flat eslotC S ++ eslotC s)) (hg : (w5.alloc o).grownBy w6 v1.ownBlock) :
   w6.ownsRow w.heap.size 26 2 v6 (j + 1) (flat eslotC (S ++ [s])) ∧ ESlotsK w6 (S ++ [s]) (L ++ [x]) ∧ Below w.heap.size w w6 := by
 have ho5 := (owns_keep HO hb5).alloc o
 have hb := step_box (below_deep HB hb5) o
 refine ⟨by rw [flat_snoc]; exact h6, ?_, step_row hb ho5 hg⟩
 exact (((HT.below hb5).below (grew w5 o)).grown ho5 hg).snoc ((hs.below (grew w5 o)).grown ho5 hg)

set_option maxHeartbeats 8000000 in
set_option maxRecDepth 100000 in
theorem logOwn_callsO (L : List Ent) (eb : Option Addr) (en ec : Nat) (w : World) (hn : en ≤ 1048576) (hf : FewE 1048576 L) (hd : EntsIn w eb en ec L) :
   Calls Tryz.prog 50 #[.slice eb en ec] w fun e w' => ∃ v S, e = .returned v ∧ w'.ownsRow w.heap.size 26 2 v en (flat eslotC S) ∧ ESlotsK w' S L ∧ Below w.heap.size w w' := by
 have HLN := hid hd.len
 have HD := hid hd
 have HF := hid hf
 clear hd hf
 go_enter Tryz.func50, Tryz.ntmps50
 go_wp2
 go_loopw [3, 8] (fun pv i wr => ∃ (j : Nat) (S : List ESlot), j ≤ en ∧ i = .int .i64 j ∧ Hid (wr.ownsRow w.heap.size 26 2 pv j (flat eslotC S)) ∧ Hid (ESlotsK wr S (L.take j)) ∧ Hid (Below w.heap.size w wr)) (fun _ i _ => en - (intOf i).toNat)
 case atStart => exact ⟨0, [], Nat.zero_le _, rfl, World.ownsRow_nil _ _ _ _, ESlotsK.nil _, Below.refl _ _⟩
 case round =>
   obtain ⟨j, S, hj, rfl, HO, HT, HBR⟩ := hrel
   by_cases hlt : j < en
   · have hjl : j < L.length := by rw [← HLN.out]; exact hlt
     have hi : (j : Int) < (en : Int) := by omega
     rcases (HD.out.below HBR.out).run with h | ⟨eb1, ebo, rfl, hdr⟩
     · omega
     obtain ⟨db, dn, dc, k0, k1, hdi⟩ := hdr j hlt
     have heb : eb1 < wr.heap.size := by simpa using World.block_lt_of_cell? _ _ k0
     have hfew := HF.out j hjl
     have e1 := hdi.len
     have HGW := hid (grew wr (.cells #[.int .i64 (L.getD j default).1, .slice db dn dc] 26))
     have HDI := hid (hdi.below HGW.out)
     have HW := hid (fun W h => ownDeeds_calls (L.getD j default).2 db dn dc W (by omega) hfew.2 h)
     have HTK := hid (take_snoc_getD hjl)
     have N : Hid ((j + 1) * 32 ≤ 140737488355328) := by show _ ≤ _; omega
     have y0 := box_cell wr #[.int .i64 (L.getD j default).1, .slice db dn dc] 26 0 _ rfl
     have y1 := box_cell wr #[.int .i64 (L.getD j default).1, .slice db dn dc] 26 1 _ rfl
     clear hdi hdr hfew e1
     generalize L.getD j default = x at *
     obtain ⟨m, D⟩ := x
     simp only at HGW HDI HW y0 y1 k0 ⊢
     go_upto_region 5 with fail
     have HBA := hid (below_deep HBR.out HGW.out)
     have HOA := hid (owns_keep HO.out HGW.out)
     have HTA := hid (HT.out.below HGW.out)
     have hbd : wr.heap.size < (wr.alloc (.cells #[.int .i64 m, .slice db dn dc] 26)).heap.size := by rw [World.size_alloc]; omega
     clear k0 k1 heb HO HT HBR HGW
     generalize wr.alloc (.cells #[.int .i64 m, .slice db dn dc] 26) = A at *
     generalize wr.heap.size = bd at *
     have HDr := hid (step_drew (Below.refl A.heap.size A))
     go_region_law (first
       | (go_simp; go_at_call 74; refine (HW.out _ ?_).mono ?_; (with_reducible exact HDI.out.below HDr.out); rintro e w5 ⟨b5, c5, T5, rfl, hl5, hd5, hk5, hb5⟩; have hb5' : Below A.heap.size A w5 := (by with_reducible exact below_deep HDr.out hb5); have z0 := kept_cell hb5' y0; have z1 := kept_cell hb5' y1; have hbd' := Nat.lt_of_lt_of_le hbd hb5'.size)
       | (have hq5 := hb5'.size; refine step_grow _ rfl _ _ 22 26 2 32 _ Tryz.underlying22 entInfo rfl (by decide) (by decide) rfl w.heap.size _ j (flat eslotC S) rfl ?_ _ 1 _ [.int .i64 m, .slice b5 dn c5] rfl ?_ (eslotC_one (m, b5, dn, c5)) N.out ?_ ?_; (exact (owns_keep HOA.out hb5').alloc _); (exact lies_one w5 _ _ 2 rfl); (exact Nat.le_trans HBA.out.size (step_box hb5' _).size); intro v6 w6 hown6 hg6))
     all_goals
       have HX := hid (ents_grow (s := (m, b5, dn, c5)) (x := (m, D)) _ HOA.out HTA.out HBA.out hb5' ⟨rfl, hk5, T5, hl5, hd5⟩ hown6 hg6)
       clear hown6 hg6 hl5 hd5 hk5 hb5 hb5'
       go_wp2
       go_roundw
       case rel => exact ⟨j + 1, _, hlt, by go_num, HX.out.1, by rw [HTK.out]; exact HX.out.2.1, HX.out.2.2⟩
       case measure => simp [intOf]; omega
   · obtain rfl : j = en := by omega
     have HTD : Hid (ESlotsK wr S L) := by
       have := HT.out
       rw [HLN.out, List.take_length] at this
       exact this
     obtain ⟨b', c', rfl, hl⟩ := Lies.owned HO.out
     clear hl
     go_wp2
     go_ret
     exact ⟨_, S, rfl, HO.out, HTD.out, HBR.out⟩
end Go.Proofs.YtlhaeeenkgkdaaaGreatDoor

namespace Go.Proofs.YtlhaeeenkgkdaaaGreatDoor
open Go.RowKit

def hadTo (r : Rep) (e : Ent) (i : Nat) : Bool := decide (e.1 < r.next) || (r.early.take i).any (isNum e.1)
theorem had_zero (r : Rep) (e : Ent) : hadTo r e 0 = decide (e.1 < r.next) := by simp [hadTo]
theorem had_next {r : Rep} {e : Ent} {i : Nat} (hi : i < r.early.length) : hadTo r e (i + 1) = (hadTo r e i || decide ((r.early.getD i default).1 = e.1)) := by
 unfold hadTo
 rw [show r.early.take (i + 1) = r.early.take i ++ [r.early.getD i default] from by rw [List.take_add_one]; simp [List.getD, hi]]
 rw [List.any_append, Bool.or_assoc]
 simp [isNum]
theorem had_all (r : Rep) (e : Ent) {i : Nat} (hi : r.early.length ≤ i) : hadTo r e i = hadR r e := by unfold hadTo hadR; rw [List.take_of_length_le hi]
theorem find_none {n : Int} {L : List Ent} (h : ∀ j, j < L.length → (L.getD j default).1 ≠ n) : L.find? (isNum n) = none := by
 rw [List.find?_eq_none]
 intro x hx
 obtain ⟨j, hj, rfl⟩ := List.getElem_of_mem hx
 have h1 := h j hj
 have e : L.getD j default = L[j] := by simp [List.getD, hj]
 rw [e] at h1
 simpa [isNum] using h1
theorem find_here {n : Int} : ∀ {L : List Ent} {j : Nat}, j < L.length → (L.getD j default).1 = n → L.Pairwise (fun x y => x.1 ≠ y.1) → L.find? (isNum n) = some (L.getD j default) ∧ L.filter (fun y => !isNum n y) = L.take j ++ L.drop (j + 1)
 | [], _, h, _, _ => absurd h (Nat.not_lt_zero _)
 | x :: L, 0, _, hn, hp => by
   have hn' : x.1 = n := hn
   have hx : isNum n x = true := decide_eq_true hn'
   rw [List.pairwise_cons] at hp
   refine ⟨by rw [List.find?_cons_of_pos hx]; rfl, ?_⟩
   rw [List.filter_cons_of_neg (by simp [hx])]
   show _ = L
   rw [List.filter_eq_self]
   intro y hy
   have := hp.1 y hy
   have h2 : isNum n y = false := decide_eq_false (by rw [← hn']; exact fun e => this e.symm)
   simp [h2]
 | x :: L, j + 1, hj, hn, hp => by
   rw [List.pairwise_cons] at hp
   have hj' : j < L.length := by simpa using hj
   have hn' : (L.getD j default).1 = n := hn
   have hm : L.getD j default ∈ L := by
     have e : L.getD j default = L[j] := by simp [List.getD, hj']
     rw [e]; exact List.getElem_mem hj'
   have hx : isNum n x = false := decide_eq_false (by rw [← hn']; exact hp.1 _ hm)
   obtain ⟨h1, h2⟩ := find_here hj' hn' hp.2
   refine ⟨by rw [List.find?_cons_of_neg (by simp [hx]), h1]; rfl, ?_⟩
   rw [List.filter_cons_of_pos (by simp [hx]), h2]
   rfl
theorem pull_none {f : Nat} {eng : Eng} {nx : Int} {ea : List Ent} (h : ea.find? (isNum nx) = none) : pullR f ⟨eng, nx, ea⟩ = ⟨eng, nx, ea⟩ := by
 cases f with
 | zero => rfl
 | succ f => unfold pullR; simp only [h]
theorem pull_some {f : Nat} {eng : Eng} {nx : Int} {ea : List Ent} {x : Ent} (h : ea.find? (isNum nx) = some x) : pullR (f + 1) ⟨eng, nx, ea⟩ = pullR f ⟨addAll eng x.2, nx + 1, ea.filter (fun y => !isNum nx y)⟩ := by
 conv => lhs; unfold pullR
 simp only [h]
end Go.Proofs.YtlhaeeenkgkdaaaGreatDoor

namespace Go.Proofs.YtlhaeeenkgkdaaaGreatDoor
open Go.RowKit

set_option maxHeartbeats 2000000 in
set_option maxRecDepth 100000 in
theorem sameChains_calls (L : List Chn) (ab : Option Addr) (an ac : Nat) (bb : Option Addr) (bn bc : Nat) (w : World) (ha : ChainsIn w ab an ac L) (hb : ChainsIn w bb bn bc L) :
   Calls Tryz.prog 54 #[.slice ab an ac, .slice bb bn bc] w fun e w' => e = .returned (.bool true) ∧ Below w.heap.size w w' := by
 obtain rfl : an = bn := by rw [ha.len, hb.len]
 have hm := Nat.le_trans ha.hdr.le ha.hdr.max
 unfold maxLen at hm
 have HA := hid ha
 have HB := hid hb
 clear ha hb
 have hnn : ((an : Int) != (an : Int)) = false := by simp
 go_enter Tryz.func54, Tryz.ntmps54
 go_wp2
 go_loopw [14] (fun i wr => ∃ j : Nat, j ≤ an ∧ i = .int .i64 j ∧ ∃ q, wr = w.drewN q) (fun i _ => an - (intOf i).toNat)
 case atStart => exact ⟨0, Nat.zero_le _, rfl, 0, rfl⟩
 case round =>
   obtain ⟨j, hj, rfl, q, rfl⟩ := hrel
   by_cases hlt : j < an
   · have hi : (j : Int) < (an : Int) := by omega
     rcases HA.out.run with h | ⟨b1, o1, rfl, r1⟩
     · omega
     rcases HB.out.run with h | ⟨b2, o2, rfl, r2⟩
     · omega
     obtain ⟨vb, vn, vc, c0, c1, hv, _⟩ := r1 j hlt
     obtain ⟨ub, un, uc, d0, d1, hu, _⟩ := r2 j hlt
     obtain rfl : vn = un := by rw [Vers.count hv, Vers.count hu]
     have hvm := Nat.le_trans hv.hdr.le hv.hdr.max
     unfold maxLen at hvm
     have HVC := hid (Vers.count hv)
     generalize (L.getD j default).1 = kk at *
     have HV := hid hv
     have HU := hid hu
     have e1 : (kk.toList == kk.toList) = true := by simp
     have e2 : (kk.toList != kk.toList) = false := by simp
     have e3 : ((vn : Int) != (vn : Int)) = false := by simp
     clear r1 r2 hv hu
     go_wp2
     go_quiet (fail)
     go_wp2
     go_loopw [49] (fun i wr => ∃ t : Nat, t ≤ vn ∧ i = .int .i64 t ∧ ∃ q, wr = w.drewN q) (fun i _ => vn - (intOf i).toNat)
     case atStart => exact ⟨0, Nat.zero_le _, rfl, _, rfl⟩
     case round =>
       obtain ⟨t, ht, rfl, q2, rfl⟩ := hrel
       by_cases htn : t < vn
       · have hti : (t : Int) < (vn : Int) := by omega
         have htl : t < (L.getD j default).2.length := by rw [← HVC.out]; exact htn
         rcases HV.out.run with h | ⟨b3, o3, rfl, r3⟩
         · omega
         rcases HU.out.run with h | ⟨b4, o4, rfl, r4⟩
         · omega
         obtain ⟨x0, x1, x2, x3⟩ := Vers.cells r3 htl
         obtain ⟨z0, z1, z2, z3⟩ := Vers.cells r4 htl
         clear r3 r4
         obtain ⟨y, m, h, x, hx⟩ : ∃ y m h x, (L.getD j default).2.getD t default = (y, m, h, x) := ⟨_, _, _, _, rfl⟩
         rw [hx] at x0 x1 x2 x3 z0 z1 z2 z3
         simp only [Ver.by_, Ver.made, Ver.has_, Ver.n] at x0 x1 x2 x3 z0 z1 z2 z3
         clear hx
         have t1 : (y == y) = true := by simp
         have t2 : (m == m) = true := by simp
         have t3 : (h == h) = true := by simp
         have t4 : (x == x) = true := by simp
         go_wp2
         go_quiet (fail)
         go_wp2
         go_roundw
         case rel => exact ⟨t + 1, by omega, by go_num, _, rfl⟩
         case measure => simp [intOf]; omega
       · go_wp2
         go_roundw
         case rel => exact ⟨j + 1, by omega, by go_num, _, rfl⟩
         case measure => simp [intOf]; omega
   · go_wp2
     go_ret
     exact ⟨rfl, below_drewN (Below.refl _ _) q⟩
end Go.Proofs.YtlhaeeenkgkdaaaGreatDoor

namespace Go.Proofs.YtlhaeeenkgkdaaaGreatDoor
open Go.RowKit

set_option maxHeartbeats 2000000 in
theorem sameInts_calls (l : List Int) (ab : Option Addr) (an ac : Nat) (bb : Option Addr) (bn bc : Nat) (w : World) (ha : Ints w ab an ac l) (hb : Ints w bb bn bc l) :
   Calls Tryz.prog 56 #[.slice ab an ac, .slice bb bn bc] w fun e w' => e = .returned (.bool true) ∧ Below w.heap.size w w' := by
 have h1 := Ints.count ha
 have h2 := Ints.count hb
 obtain rfl : an = bn := by omega
 have hm := Nat.le_trans ha.hdr.le ha.hdr.max
 unfold maxLen at hm
 have HN := hid h1
 have HA := hid ha
 have HB := hid hb
 clear h1 h2 ha hb
 go_enter Tryz.func56, Tryz.ntmps56
 go_wp2
 go_loopw [13] (fun i wr => ∃ k : Nat, k ≤ an ∧ i = .int .i64 k ∧ ∃ q, wr = w.drewN q) (fun i _ => an - (intOf i).toNat)
 case atStart => exact ⟨0, Nat.zero_le _, rfl, 0, rfl⟩
 case round =>
   obtain ⟨k, hk, rfl, q, rfl⟩ := hrel
   by_cases hlt : k < an
   · have hkl : k < l.length := by rw [← HN.out]; exact hlt
     rcases HA.out.run with h | ⟨b1, o1, rfl, r1⟩
     · omega
     rcases HB.out.run with h | ⟨b2, o2, rfl, r2⟩
     · omega
     have a0 := r1 k _ (intsC_at hkl)
     have c0 := r2 k _ (intsC_at hkl)
     clear r1 r2
     generalize l.getD k 0 = x at *
     have hi : (k : Int) < (an : Int) := by omega
     have t : (x != x) = false := by simp
     go_wp2
     go_quiet (fail)
     go_wp2
     go_roundw
     case rel => exact ⟨k + 1, by omega, by go_num, _, rfl⟩
     case measure => simp [intOf]; omega
   · go_wp2
     go_ret
     exact ⟨rfl, below_drewN (Below.refl _ _) q⟩

set_option maxHeartbeats 4000000 in
set_option maxRecDepth 100000 in
theorem sameDeeds_calls (D : List Deed3) (ab : Option Addr) (an ac : Nat) (bb : Option Addr) (bn bc : Nat) (w : World) (ha : DeedsIn w ab an ac D) (hb : DeedsIn w bb bn bc D) :
   Calls Tryz.prog 55 #[.slice ab an ac, .slice bb bn bc] w fun e w' => e = .returned (.bool true) ∧ Below w.heap.size w w' := by
 obtain rfl : an = bn := by rw [ha.len, hb.len]
 have hm := Nat.le_trans ha.hdr.le ha.hdr.max
 unfold maxLen at hm
 have HA := hid ha
 have HB := hid hb
 clear ha hb
 go_enter Tryz.func55, Tryz.ntmps55
 go_wp2
 go_loopw [13] (fun i wr => ∃ k : Nat, k ≤ an ∧ i = .int .i64 k ∧ Hid (Below w.heap.size w wr)) (fun i _ => an - (intOf i).toNat)
 case atStart => exact ⟨0, Nat.zero_le _, rfl, Below.refl _ _⟩
 case round =>
   obtain ⟨k, hk, rfl, HBR⟩ := hrel
   by_cases hlt : k < an
   · rcases HA.out.run with h | ⟨b1, o1, rfl, r1⟩
     · omega
     rcases HB.out.run with h | ⟨b2, o2, rfl, r2⟩
     · omega
     obtain ⟨rb, rn, rc, wb, wn, wc, cb, cn, cc, a0, a1, a2, hda, _, _⟩ := (r1 k hlt).below HBR.out
     obtain ⟨rb', rn', rc', wb', wn', wc', cb', cn', cc', c0, c1, c2, hdb, _, _⟩ := (r2 k hlt).below HBR.out
     clear r1 r2
     have hi : (k : Int) < (an : Int) := by omega
     have hb1 : b1 < wr.heap.size := by simpa using World.block_lt_of_cell? _ _ a0
     have hb2 : b2 < wr.heap.size := by simpa using World.block_lt_of_cell? _ _ c0
     have HDA := hid hda
     have HDB := hid hdb
     clear hda hdb
     have HK : Hid (∀ w', Below wr.heap.size wr w' → (w'.cell? ⟨b1, o1 + k * 3, none⟩ = some (.slice rb rn rc) ∧ w'.cell? ⟨b1, o1 + k * 3 + 1, none⟩ = some (.slice wb wn wc) ∧ w'.cell? ⟨b1, o1 + k * 3 + 2, none⟩ = some (.slice cb cn cc) ∧ w'.cell? ⟨b2, o2 + k * 3, none⟩ = some (.slice rb' rn' rc') ∧ w'.cell? ⟨b2, o2 + k * 3 + 1, none⟩ = some (.slice wb' wn' wc') ∧ w'.cell? ⟨b2, o2 + k * 3 + 2, none⟩ = some (.slice cb' cn' cc') ∧ Below wr.heap.size wr w')) := fun w' hb => ⟨kept_cell hb a0, kept_cell hb a1, kept_cell hb a2, kept_cell hb c0, kept_cell hb c1, kept_cell hb c2, hb⟩
     have HSD := hid (fun W hA hB => refSameDeed_calls (D.getD k default).1 (D.getD k default).2.1 (D.getD k default).2.2 (D.getD k default).1 (D.getD k default).2.1 (D.getD k default).2.2 rb rn rc wb wn wc cb cn cc rb' rn' rc' wb' wn' wc' cb' cn' cc' W hA hB)
     simp only [decide_true, Bool.and_true] at HSD
     clear a0 a1 a2 c0 c1 c2
     go_wp2
     go_region_held3 (fun w' => w'.cell? ⟨b1, o1 + k * 3, none⟩ = some (.slice rb rn rc) ∧ w'.cell? ⟨b1, o1 + k * 3 + 1, none⟩ = some (.slice wb wn wc) ∧ w'.cell? ⟨b1, o1 + k * 3 + 2, none⟩ = some (.slice cb cn cc) ∧ w'.cell? ⟨b2, o2 + k * 3, none⟩ = some (.slice rb' rn' rc') ∧ w'.cell? ⟨b2, o2 + k * 3 + 1, none⟩ = some (.slice wb' wn' wc') ∧ w'.cell? ⟨b2, o2 + k * 3 + 2, none⟩ = some (.slice cb' cn' cc') ∧ Below wr.heap.size wr w')
       (first
         | exact HK.out _ (step_drew (Below.refl _ _))
         | exact HK.out _ (by assumption))
       (first
         | (go_at_call 76; refine (HSD.out _ ?_ ?_).mono ?_; (exact HDA.out.below (hold6 (by assumption))); (exact HDB.out.below (hold6 (by assumption))); rintro e w1 ⟨rfl, hb1'⟩; have hbb := below_deep (step_drew (Below.refl wr.heap.size wr)) hb1'))
     have HB3 := hid (below_deep HBR.out hbb)
     clear hbb hb1' HK HSD
     go_wp2
     go_roundw
     case rel => exact ⟨k + 1, by omega, by go_num, HB3⟩
     case measure => simp [intOf]; omega
   · go_wp2
     go_ret
     exact ⟨rfl, HBR.out⟩

set_option maxHeartbeats 4000000 in
set_option maxRecDepth 100000 in
theorem sameEng_calls (e : Eng) (va vb : Value) (w : World) (ha : EngIn w va e) (hb : EngIn w vb e) :
   Calls Tryz.prog 23 #[va, vb] w fun x w' => x = .returned (.bool true) ∧ Below w.heap.size w w' := by
 obtain ⟨cb, cn, cc, db, dn, dc, sb, sn, sc, eb, en, ec, rfl, hl⟩ := ha
 obtain ⟨cb', cn', cc', db', dn', dc', sb', sn', sc', eb', en', ec', rfl, hl'⟩ := hb
 have HX0 := hid (Box.new w #[.slice cb cn cc, .slice db dn dc, .slice sb sn sc, .slice eb en ec, .int .i64 e.base] 33)
 have HG0 := hid (grew w (.cells #[.slice cb cn cc, .slice db dn dc, .slice sb sn sc, .slice eb en ec, .int .i64 e.base] 33))
 have HX1 := hid (Box.new (w.alloc (.cells #[.slice cb cn cc, .slice db dn dc, .slice sb sn sc, .slice eb en ec, .int .i64 e.base] 33)) #[.slice cb' cn' cc', .slice db' dn' dc', .slice sb' sn' sc', .slice eb' en' ec', .int .i64 e.base] 33)
 have HG1 := hid (grew (w.alloc (.cells #[.slice cb cn cc, .slice db dn dc, .slice sb sn sc, .slice eb en ec, .int .i64 e.base] 33)) (.cells #[.slice cb' cn' cc', .slice db' dn' dc', .slice sb' sn' sc', .slice eb' en' ec', .int .i64 e.base] 33))
 rw [World.size_alloc] at HX1
 have HX0' := hid (HX0.out.below HG1.out)
 have HBW := hid (below_deep HG0.out HG1.out)
 have HL := hid (hl.below HBW.out)
 have HL' := hid (hl'.below HBW.out)
 clear hl hl' HX0 HG0 HG1
 go_enter Tryz.func23, Tryz.ntmps23
 go_upto_region 1 with fail
 generalize (w.alloc (.cells #[.slice cb cn cc, .slice db dn dc, .slice sb sn sc, .slice eb en ec, .int .i64 e.base] 33)).alloc (.cells #[.slice cb' cn' cc', .slice db' dn' dc', .slice sb' sn' sc', .slice eb' en' ec', .int .i64 e.base] 33) = A at *
 obtain ⟨x0, x1, x2, x3, x4⟩ := HX0'.out.cells5
 obtain ⟨y0, y1, y2, y3, y4⟩ := HX1.out.cells5
 have hxl : w.heap.size < A.heap.size := HX0'.out.lt
 have hyl : w.heap.size + 1 < A.heap.size := HX1.out.lt
 have PC := hid (sameChains_calls e.chains cb cn cc cb' cn' cc' A HL.out.ch HL'.out.ch)
 go_wp2_with fail
 refine PC.out.mono ?_
 rintro x w1 ⟨rfl, hb1⟩
 obtain ⟨x0, x1, x2, x3, x4⟩ := (HX0'.out.below hb1).cells5
 obtain ⟨y0, y1, y2, y3, y4⟩ := (HX1.out.below hb1).cells5
 have HB1 := hid hb1
 have PD := hid (sameDeeds_calls e.deeds db dn dc db' dn' dc' w1 (HL.out.below hb1).de (HL'.out.below hb1).de)
 clear hb1 PC
 go_wp2_with fail
 refine PD.out.mono ?_
 rintro x w2 ⟨rfl, hb2⟩
 have HB2 := hid (below_deep HB1.out hb2)
 obtain ⟨x0, x1, x2, x3, x4⟩ := (HX0'.out.below HB2.out).cells5
 obtain ⟨y0, y1, y2, y3, y4⟩ := (HX1.out.below HB2.out).cells5
 have PS := hid (sameInts_calls e.state sb sn sc sb' sn' sc' w2 (HL.out.below HB2.out).st (HL'.out.below HB2.out).st)
 clear hb2 PD
 go_wp2_with fail
 refine PS.out.mono ?_
 rintro x w3 ⟨rfl, hb3⟩
 have HB3 := hid (below_deep HB2.out hb3)
 obtain ⟨x0, x1, x2, x3, x4⟩ := (HX0'.out.below HB3.out).cells5
 obtain ⟨y0, y1, y2, y3, y4⟩ := (HX1.out.below HB3.out).cells5
 have PE := hid (sameEnds_calls e.ends eb en ec eb' en' ec' w3 (HL.out.below HB3.out).en (HL'.out.below HB3.out).en)
 clear hb3 PS
 go_wp2_with fail
 refine PE.out.mono ?_
 rintro x w4 ⟨rfl, hb4⟩
 have HB4 := hid (below_deep HB3.out hb4)
 obtain ⟨x0, x1, x2, x3, x4⟩ := (HX0'.out.below HB4.out).cells5
 obtain ⟨y0, y1, y2, y3, y4⟩ := (HX1.out.below HB4.out).cells5
 clear hb4 PE
 generalize e.base = bs at *
 have t : (bs == bs) = true := by simp
 go_wp2
 go_ret
 exact ⟨rfl, below_deep HBW.out HB4.out⟩
end Go.Proofs.YtlhaeeenkgkdaaaGreatDoor

namespace Go.Proofs.YtlhaeeenkgkdaaaGreatDoor
open Go.RowKit

set_option maxHeartbeats 4000000 in
set_option maxRecDepth 100000 in
theorem sameEnts_calls (L : List Ent) (ab : Option Addr) (an ac : Nat) (bb : Option Addr) (bn bc : Nat) (w : World) (ha : EntsIn w ab an ac L) (hb : EntsIn w bb bn bc L) :
   Calls Tryz.prog 24 #[.slice ab an ac, .slice bb bn bc] w fun e w' => e = .returned (.bool true) ∧ Below w.heap.size w w' := by
 obtain rfl : an = bn := by rw [ha.len, hb.len]
 have hm := Nat.le_trans ha.hdr.le ha.hdr.max
 unfold maxLen at hm
 have HA := hid ha
 have HB := hid hb
 clear ha hb
 go_enter Tryz.func24, Tryz.ntmps24
 go_wp2
 go_loopw [13] (fun i wr => ∃ k : Nat, k ≤ an ∧ i = .int .i64 k ∧ Hid (Below w.heap.size w wr)) (fun i _ => an - (intOf i).toNat)
 case atStart => exact ⟨0, Nat.zero_le _, rfl, Below.refl _ _⟩
 case round =>
   obtain ⟨k, hk, rfl, HBR⟩ := hrel
   by_cases hlt : k < an
   · rcases HA.out.run with h | ⟨b1, o1, rfl, r1⟩
     · omega
     rcases HB.out.run with h | ⟨b2, o2, rfl, r2⟩
     · omega
     obtain ⟨db, dn, dc, a0, a1, hda⟩ := (r1 k hlt).below HBR.out
     obtain ⟨db', dn', dc', c0, c1, hdb⟩ := (r2 k hlt).below HBR.out
     clear r1 r2
     have hi : (k : Int) < (an : Int) := by omega
     have hb1 : b1 < wr.heap.size := by simpa using World.block_lt_of_cell? _ _ a0
     have hb2 : b2 < wr.heap.size := by simpa using World.block_lt_of_cell? _ _ c0
     have HDA := hid hda
     have HDB := hid hdb
     clear hda hdb
     generalize (L.getD k default).1 = m at *
     generalize (L.getD k default).2 = D at *
     have t : (m != m) = false := by simp
     have HK : Hid (∀ w', Below wr.heap.size wr w' → (w'.cell? ⟨b1, o1 + k * 2, none⟩ = some (.int .i64 m) ∧ w'.cell? ⟨b1, o1 + k * 2 + 1, none⟩ = some (.slice db dn dc) ∧ w'.cell? ⟨b2, o2 + k * 2, none⟩ = some (.int .i64 m) ∧ w'.cell? ⟨b2, o2 + k * 2 + 1, none⟩ = some (.slice db' dn' dc') ∧ Below wr.heap.size wr w')) := fun w' h => ⟨kept_cell h a0, kept_cell h a1, kept_cell h c0, kept_cell h c1, h⟩
     have HSD := hid (fun W hA hB => sameDeeds_calls D db dn dc db' dn' dc' W hA hB)
     clear a0 a1 c0 c1
     go_wp2
     go_region_held3 (fun w' => w'.cell? ⟨b1, o1 + k * 2, none⟩ = some (.int .i64 m) ∧ w'.cell? ⟨b1, o1 + k * 2 + 1, none⟩ = some (.slice db dn dc) ∧ w'.cell? ⟨b2, o2 + k * 2, none⟩ = some (.int .i64 m) ∧ w'.cell? ⟨b2, o2 + k * 2 + 1, none⟩ = some (.slice db' dn' dc') ∧ Below wr.heap.size wr w')
       (first
         | exact HK.out _ (step_drew (Below.refl _ _))
         | exact HK.out _ (by assumption))
       (first
         | (go_at_call 55; refine (HSD.out _ ?_ ?_).mono ?_; (exact HDA.out.below (hold4 (by assumption))); (exact HDB.out.below (hold4 (by assumption))); rintro e w1 ⟨rfl, hb1'⟩; have hbb := below_deep (step_drew (Below.refl wr.heap.size wr)) hb1'))
     have HB3 := hid (below_deep HBR.out hbb)
     clear hbb hb1' HK HSD
     go_wp2
     go_roundw
     case rel => exact ⟨k + 1, by omega, by go_num, HB3⟩
     case measure => simp [intOf]; omega
   · go_wp2
     go_ret
     exact ⟨rfl, HBR.out⟩
end Go.Proofs.YtlhaeeenkgkdaaaGreatDoor

namespace Go.Proofs.YtlhaeeenkgkdaaaGreatDoor
open Go.RowKit

theorem Box.cells7 {w : World} {b : Nat} {v0 v1 v2 v3 v4 v5 v6 : Value} {t : TypeId} (h : Box w b #[v0, v1, v2, v3, v4, v5, v6] t) :
   w.cell? ⟨b, 0, none⟩ = some v0 ∧ w.cell? ⟨b, 1, none⟩ = some v1 ∧ w.cell? ⟨b, 2, none⟩ = some v2 ∧ w.cell? ⟨b, 3, none⟩ = some v3 ∧ w.cell? ⟨b, 4, none⟩ = some v4 ∧ w.cell? ⟨b, 5, none⟩ = some v5 ∧ w.cell? ⟨b, 6, none⟩ = some v6 :=
 ⟨h.cell 0 _ rfl, h.cell 1 _ rfl, h.cell 2 _ rfl, h.cell 3 _ rfl, h.cell 4 _ rfl, h.cell 5 _ rfl, h.cell 6 _ rfl⟩
theorem Box.free7 {w : World} {b : Nat} {cs : Array Value} {t : TypeId} (h : Box w b cs t) :
   w.frozen? ⟨b, 0, none⟩ = false ∧ w.frozen? ⟨b, 1, none⟩ = false ∧ w.frozen? ⟨b, 2, none⟩ = false ∧ w.frozen? ⟨b, 3, none⟩ = false ∧ w.frozen? ⟨b, 4, none⟩ = false ∧ w.frozen? ⟨b, 5, none⟩ = false ∧ w.frozen? ⟨b, 6, none⟩ = false :=
 ⟨h.free 0, h.free 1, h.free 2, h.free 3, h.free 4, h.free 5, h.free 6⟩
set_option maxHeartbeats 4000000 in
set_option maxRecDepth 100000 in
theorem sameRep_calls (r : Rep) (va vb : Value) (w : World) (ha : RepIn w va r) (hb : RepIn w vb r) :
   Calls Tryz.prog 8 #[va, vb] w fun x w' => x = .returned (.bool true) ∧ Below w.heap.size w w' := by
 obtain ⟨cb, cn, cc, db, dn, dc, sb, sn, sc, eb, en, ec, ab, an, ac, rfl, hl⟩ := ha
 obtain ⟨cb', cn', cc', db', dn', dc', sb', sn', sc', eb', en', ec', ab', an', ac', rfl, hl'⟩ := hb
 have HX0 := hid (Box.new w (repA cb cn cc db dn dc sb sn sc eb en ec r.eng.base r.next ab an ac) 35)
 have HG0 := hid (grew w (.cells (repA cb cn cc db dn dc sb sn sc eb en ec r.eng.base r.next ab an ac) 35))
 have HX1 := hid (Box.new (w.alloc (.cells (repA cb cn cc db dn dc sb sn sc eb en ec r.eng.base r.next ab an ac) 35)) (repA cb' cn' cc' db' dn' dc' sb' sn' sc' eb' en' ec' r.eng.base r.next ab' an' ac') 35)
 have HG1 := hid (grew (w.alloc (.cells (repA cb cn cc db dn dc sb sn sc eb en ec r.eng.base r.next ab an ac) 35)) (.cells (repA cb' cn' cc' db' dn' dc' sb' sn' sc' eb' en' ec' r.eng.base r.next ab' an' ac') 35))
 rw [World.size_alloc] at HX1
 have HX0' := hid (HX0.out.below HG1.out)
 have HBW := hid (below_deep HG0.out HG1.out)
 have HL := hid (hl.below HBW.out)
 have HL' := hid (hl'.below HBW.out)
 clear hl hl' HX0 HG0 HG1
 go_enter Tryz.func8, Tryz.ntmps8
 go_upto_region 1 with fail
 generalize (w.alloc (.cells (repA cb cn cc db dn dc sb sn sc eb en ec r.eng.base r.next ab an ac) 35)).alloc (.cells (repA cb' cn' cc' db' dn' dc' sb' sn' sc' eb' en' ec' r.eng.base r.next ab' an' ac') 35) = A at *
 obtain ⟨x0, x1, x2, x3, x4, x5, x6⟩ := HX0'.out.cells7
 obtain ⟨y0, y1, y2, y3, y4, y5, y6⟩ := HX1.out.cells7
 have hxl : w.heap.size < A.heap.size := HX0'.out.lt
 have hyl : w.heap.size + 1 < A.heap.size := HX1.out.lt
 have PE := hid (sameEng_calls r.eng _ _ A ⟨_, _, _, _, _, _, _, _, _, _, _, _, rfl, HL.out.eng⟩ ⟨_, _, _, _, _, _, _, _, _, _, _, _, rfl, HL'.out.eng⟩)
 go_wp2_with fail
 refine PE.out.mono ?_
 rintro x w1 ⟨rfl, hb1⟩
 obtain ⟨x0, x1, x2, x3, x4, x5, x6⟩ := (HX0'.out.below hb1).cells7
 obtain ⟨y0, y1, y2, y3, y4, y5, y6⟩ := (HX1.out.below hb1).cells7
 have HB1 := hid hb1
 have PS := hid (sameEnts_calls r.early ab an ac ab' an' ac' w1 (HL.out.early.below hb1) (HL'.out.early.below hb1))
 have t : (r.next == r.next) = true := by simp
 clear hb1 PE
 go_wp2_with fail
 refine PS.out.mono ?_
 rintro x w2 ⟨rfl, hb2⟩
 have HB2 := hid (below_deep HBW.out (below_deep HB1.out hb2))
 clear hb2 PS
 go_wp2
 go_ret
 exact ⟨rfl, HB2.out⟩
end Go.Proofs.YtlhaeeenkgkdaaaGreatDoor
