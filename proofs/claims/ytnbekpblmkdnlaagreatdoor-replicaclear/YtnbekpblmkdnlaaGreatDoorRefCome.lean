/-
  Where a text is first among texts, told by its place; what is written in rows of an engine that the call owns.
  An entry kept behind others: the program's 'keep'.
  slices.Delete of one entry, in a row that the call owns: what is behind it moves up, in the row's own block.
  Come of replicas, the document's own, walked.
-/
import Derived.Test.YtnbekpblmkdnlaaGreatDoorRepFinds
import Derived.Test.YtnbekpblmkdnlaaGreatDoorPlanNeeds
import Derived.Test.YtnbekpblmkdnlaaGreatDoorRefGoE
import Derived.Test.YtnbekpblmkdnlaaGreatDoorDeedRun
import Derived.Test.YtnbekpblmkdnlaaGreatDoorPlanLib
import Derived.Test.YtnbekpblmkdnlaaGreatDoorChainWith
import Derived.Test.YtnbekpblmkdnlaaGreatDoorComeIn
import Derived.Test.YtnbekpblmkdnlaaGreatDoorRefRight
import Derived.Deep.RegionLaw
import Derived.Deep.DeepCutAuto
namespace Go.Proofs.YtnbekpblmkdnlaaGreatDoor
open Go.RowKit

def IndexIs (l : List ByteArray) (k : ByteArray) (x : Int) : Prop := (x = -1 ∧ has l k = false) ∨ ∃ j : Nat, j < l.length ∧ x = j ∧ l.getD j default = k
theorem indexAt_calls (l : List ByteArray) (base : Option Addr) (n c : Nat) (k : ByteArray) (w : World) (ha : Texts w base n c l) :
   Calls Tryz.prog 91 #[.slice base n c, .string k] w fun e w' => (∃ x : Int, e = .returned (.int .i64 x) ∧ IndexIs l k x) ∧ w = w' := by
 have HN := hid (Texts.count ha)
 have hm := Nat.le_trans ha.hdr.le ha.hdr.max
 unfold maxLen at hm
 by_cases h0 : n = 0
 · subst h0
   have hl : l = [] := List.eq_nil_of_length_eq_zero (by have := HN.out; omega)
   subst hl
   clear ha
   go_enter Tryz.func91, Tryz.ntmps91
   go_wp2
   go_loop [8] (fun i => i = .int .i64 0) (fun _ => 0)
   case atStart => rfl
   case round =>
     obtain rfl := hrel
     go_wp2
     go_ret
     exact ⟨⟨-1, rfl, .inl ⟨rfl, rfl⟩⟩, rfl⟩
 rcases ha.run with h | ⟨b, o, rfl, h1⟩
 · exact absurd h h0
 have HC := hid h1
 clear h1 h0 ha
 go_enter Tryz.func91, Tryz.ntmps91
 go_wp2
 go_loop [8] (fun i => ∃ j : Nat, j ≤ n ∧ i = .int .i64 j ∧ Hid (has (l.take j) k = false)) (fun i => n - (intOf i).toNat)
 case atStart => exact ⟨0, Nat.zero_le _, rfl, rfl⟩
 case round =>
   obtain ⟨j, hj, rfl, HH⟩ := hrel
   by_cases hlt : j < n
   · have hjl : j < l.length := by rw [← HN.out]; exact hlt
     have HJL := hid hjl
     have c1 := HC.out j _ (strs_at hjl)
     have hi : (j : Int) < (n : Int) := by omega
     have HT := hid (has_snoc (l.take j) (l.getD j default) k)
     rw [← take_snoc_getD hjl, HH.out] at HT
     obtain ⟨x, hx0⟩ : ∃ x, l.getD j default = x := ⟨_, rfl⟩
     have HX := hid hx0
     rw [hx0] at c1 HT
     clear hx0
     by_cases hx : k = x
     · have hs := streq_true hx
       have HF : Hid (l.getD j default = k) := by show _ = _; rw [HX.out, hx]
       clear hx
       go_wp2
       go_ret
       exact ⟨⟨j, rfl, .inr ⟨j, HJL.out, rfl, HF.out⟩⟩, rfl⟩
     · have hs := streq_false hx
       have HF : Hid (has (l.take (j + 1)) k = false) := by
         show _ = _
         rw [HT.out]; simpa using fun e => hx e.symm
       clear hx
       go_wp2
       go_round
       case rel => exact ⟨j + 1, by omega, by go_num, HF⟩
       case measure => simp [intOf]; omega
   · go_wp2
     go_ret
     refine ⟨⟨-1, rfl, .inl ⟨rfl, ?_⟩⟩, rfl⟩
     have : l.take j = l := List.take_of_length_le (by rw [← HN.out]; omega)
     rw [← this, HH.out]

theorem ownedSet_ints {W : World} {B g n c p : Nat} {S : List Int} (h : W.ownsRow B 3 1 (.slice (some ⟨g, 0, none⟩) n c) n (intsC S)) (x : Int) : W.grownBy (W.setCell ⟨g, p, none⟩ (.int .i64 x)) (Value.slice (some ⟨g, 0, none⟩) n c).ownBlock := (World.ownsRow.stored h p (.int .i64 x)).2
theorem own_setState {W : World} {cb : Option Addr} {B g n sc p cn cc : Nat} {v1 v3 : Value} {e : Eng} (h : EngOwn W B cb cn cc v1 (.slice (some ⟨g, 0, none⟩) n sc) v3 e) (hn : n = e.state.length) (x : Int) :
   EngOwn (W.setCell ⟨g, p, none⟩ (.int .i64 x)) B cb cn cc v1 (.slice (some ⟨g, 0, none⟩) n sc) v3 ⟨e.chains, e.deeds, e.state.set p x, e.ends, e.base⟩ := by
 subst hn
 obtain ⟨hc, ⟨T, ho, hT⟩, hst, hen⟩ := h
 have hg := ownedSet_ints (p := p) hst x
 refine ⟨hc.grown hst (by decide) (by decide) hg, ⟨T, ho.kept hg (rows_apart ho hst (by decide)), hT.grown hst (by decide) (by decide) hg⟩, ?_, hen.kept hg (rows_apart hen hst (by decide))⟩
 show World.ownsRow _ _ _ _ _ (e.state.set p x).length _
 rw [List.length_set]
 exact ints_stored hst p x
theorem five_grown {W : World} {B g n c : Nat} {xs : List Value} (h : W.ownsRow B 98 5 (.slice (some ⟨g, 0, none⟩) n c) n xs) (o : Nat) (f : Bool) (x0 x1 x2 x3 : Int) : W.grownBy (fiveAt W g o f x0 x1 x2 x3) (Value.slice (some ⟨g, 0, none⟩) n c).ownBlock := by
 have s0 := World.ownsRow.stored h o (.bool f)
 have s1 := World.ownsRow.stored s0.1 (o + 1) (.int .i64 x0)
 have s2 := World.ownsRow.stored s1.1 (o + 2) (.int .i64 x1)
 have s3 := World.ownsRow.stored s2.1 (o + 3) (.int .i64 x2)
 have s4 := World.ownsRow.stored s3.1 (o + 4) (.int .i64 x3)
 exact grown_trans (grown_trans (grown_trans (grown_trans s0.2 s1.2) s2.2) s3.2) s4.2
theorem own_setEnds {W : World} {cb : Option Addr} {B g n ec p cn cc : Nat} {v1 v2 : Value} {e : Eng} (h : EngOwn W B cb cn cc v1 v2 (.slice (some ⟨g, 0, none⟩) n ec) e) (hn : n = e.ends.length) (hp : p < e.ends.length) (x : End3) :
   EngOwn (fiveAt W g (p * 5) x.1 (x.2 0) (x.2 1) (x.2 2) (x.2 3)) B cb cn cc v1 v2 (.slice (some ⟨g, 0, none⟩) n ec) ⟨e.chains, e.deeds, e.state, e.ends.set p x, e.base⟩ := by
 subst hn
 obtain ⟨hc, ⟨T, ho, hT⟩, hst, hen⟩ := h
 have hg := five_grown hen (p * 5) x.1 (x.2 0) (x.2 1) (x.2 2) (x.2 3)
 refine ⟨hc.grown hen (by decide) (by decide) hg, ⟨T, ho.kept hg (rows_apart ho hen (by decide)), hT.grown hen (by decide) (by decide) hg⟩, hst.kept hg (rows_apart hst hen (by decide)), ?_⟩
 show World.ownsRow _ _ _ _ _ (e.ends.set p x).length _
 rw [List.length_set]
 exact ends_stored hen hp x
theorem EngOwn.chains {w : World} {cb : Option Addr} {B cn cc : Nat} {v1 v2 v3 : Value} {e : Eng} (h : EngOwn w B cb cn cc v1 v2 v3 e) {cb' : Option Addr} {cn' cc' : Nat} {L : List Chn} (hc : ChK w cb' cn' cc' L) : EngOwn w B cb' cn' cc' v1 v2 v3 ⟨L, e.deeds, e.state, e.ends, e.base⟩ := ⟨hc, h.de, h.st, h.en⟩
end Go.Proofs.YtnbekpblmkdnlaaGreatDoor

namespace Go.Proofs.YtnbekpblmkdnlaaGreatDoor
open Go.RowKit

theorem EngOwn.grownE {w w' : World} {B B' n : Nat} {v : Value} {xs : List Value} {cb : Option Addr} {cn cc : Nat} {v1 v2 v3 : Value} {e : Eng} (h : EngOwn w B' cb cn cc v1 v2 v3 e) (ho : w.ownsRow B 27 2 v n xs) (hg : w.grownBy w' v.ownBlock) : EngOwn w' B' cb cn cc v1 v2 v3 e := by
 obtain ⟨hc, ⟨T, h2, hT⟩, hst, hen⟩ := h
 exact ⟨hc.grown ho (by decide) (by decide) hg, ⟨T, h2.kept hg (rows_apart h2 ho (by decide)), hT.grown ho (by decide) (by decide) hg⟩, hst.kept hg (rows_apart hst ho (by decide)), hen.kept hg (rows_apart hen ho (by decide))⟩
theorem Box.grownE {w w' : World} {B n b : Nat} {v : Value} {xs : List Value} {cs : Array Value} {t : TypeId} (h : Box w b cs t) (hne : 27 ≠ t) (ho : w.ownsRow B 27 2 v n xs) (hg : w.grownBy w' v.ownBlock) : Box w' b cs t := (hg.block b h.lt (own_ne ho h (Ne.symm hne))).trans h
structure KeepsE (B : Nat) (w w' : World) : Prop where
 eng : ∀ (B' : Nat) (cb : Option Addr) (cn cc : Nat) (v1 v2 v3 : Value) (e : Eng), EngOwn w B' cb cn cc v1 v2 v3 e → EngOwn w' B' cb cn cc v1 v2 v3 e
 box : ∀ (b : Nat) (cs : Array Value) (t : TypeId), 27 ≠ t → Box w b cs t → Box w' b cs t
 below : Below B w w'
def KeptTold (B : Nat) (w w' : World) (n : Nat) (L : List Ent) (x : Ending) : Prop := ∃ ab ac S, x = .returned (.slice ab n ac) ∧ EarlyOwn w' B ab n ac S L ∧ KeepsE B w w'
theorem kept_told {B n ac1 : Nat} {ab1 : Option Addr} {v6 : Value} {w w5 w6 : World} {S S5 : List ESlot} {L : List Ent} {e : Ent} (h : EarlyOwn w B ab1 n ac1 S L) (hB : B ≤ w.heap.size) (hb5 : Below w.heap.size w w5) (hs5 : ESlotsK w5 S5 [e])
   (h6 : w6.ownsRow B 27 2 v6 (n + 1) (flat eslotC S ++ flat eslotC S5)) (hg : w5.grownBy w6 (Value.slice ab1 n ac1).ownBlock) : KeptTold B w w6 (n + 1) (L ++ [e]) (.returned v6) := by
 obtain ⟨ab2, ac2, rfl, hl⟩ := Lies.owned h6
 have ho5 := owns_keep h.row hb5
 obtain ⟨s, rfl⟩ : ∃ s, S5 = [s] := by
   have := hs5.1
   match S5, this with
   | [s], _ => exact ⟨s, rfl⟩
 have hsk : ESlotK w5 s e := hs5.2 0 (Nat.lt_succ_self 0)
 refine ⟨ab2, ac2, S ++ [s], rfl, ⟨by rw [flat_append]; exact h6, ((h.slots.below hb5).grown ho5 hg).snoc (hsk.grown ho5 hg)⟩, ⟨fun B' cb cn cc v1 v2 v3 e he => (he.below hb5).grownE ho5 hg, fun b cs t hne hb => (hb.below hb5).grownE hne ho5 hg, ?_⟩⟩
 exact (below_lowerB hb5 hB).grown hg (Nat.le_trans hB hb5.size) (fun k hk => (ho5.lt k hk).1)

set_option maxHeartbeats 16000000 in
set_option maxRecDepth 100000 in
theorem keep_calls {ab : Option Addr} {B an ac : Nat} {S : List ESlot} {L : List Ent} {e : Ent} (ev : Value) (w : World) (h : EarlyOwn w B ab an ac S L) (hB : B ≤ w.heap.size) (hn : an ≤ 1000) (hev : EntV w ev e) (he : RightEnt e) :
   Calls Tryz.prog 22 #[.slice ab an ac, ev] w fun x w' => KeptTold B w w' (an + 1) (L ++ [e]) x := by
 obtain ⟨qb, qn, qc, rfl, hq⟩ := hev
 have HE := hid h
 have HX0 := hid (Box.new w #[.int .i64 e.1, .slice qb qn qc] 27)
 have HG0 := hid (grew w (.cells #[.int .i64 e.1, .slice qb qn qc] 27))
 have HQ := hid hq
 have HR := hid he
 have N : Hid ((an + 1) * 32 ≤ 140737488355328) := by show _ ≤ _; omega
 have HBB := hid hB
 clear h hq hB hn he
 go_enter Tryz.func22, Tryz.ntmps22
 go_upto_region 1 with fail
 generalize w.alloc (.cells #[.int .i64 e.1, .slice qb qn qc] 27) = A at *
 have HG1 := hid (grew A (.cells #[.int .i64 e.1, .slice qb qn qc] 27))
 have HBA := hid (below_deep HG0.out HG1.out)
 have HEN : Hid (EntsIn (A.alloc (.cells #[.int .i64 e.1, .slice qb qn qc] 27)) (some ⟨A.heap.size, 0, none⟩) 1 1 [e]) := by
   refine ⟨rfl, ⟨Nat.le_refl _, by unfold maxLen; omega, fun h => by cases h⟩, .inr ⟨_, _, rfl, fun i hi => ?_⟩⟩
   obtain rfl : i = 0 := by omega
   exact ⟨qb, qn, qc, box_cell _ _ _ 0 _ rfl, box_cell _ _ _ 1 _ rfl, HQ.out.below HBA.out⟩
 have PO := hid (logOwn_callsO [e] (some ⟨A.heap.size, 0, none⟩) 1 1 _ (by decide) (few_ents (fun x hx => by obtain rfl := List.mem_singleton.1 hx; exact HR.out)) HEN.out)
 have x0 := HX0.out.cell 0 _ rfl
 have x1 := HX0.out.cell 1 _ rfl
 have hl0 : w.heap.size < A.heap.size := HX0.out.lt
 go_wp2_with fail
 refine PO.out.mono ?_
 rintro _ w5 ⟨v5, S5, rfl, ho5, hs5, hb5⟩
 have HB5 := hid (below_deep HBA.out hb5)
 have HS5 := hid hs5
 obtain ⟨ab5, ac5, rfl, hl5⟩ := Lies.owned ho5
 have HL5 := hid hl5
 have O5 := hid (flatE_one S5)
 have HO5 := hid (owns_keep HE.out.row HB5.out)
 have SZ5 := hid (Nat.le_trans HBB.out HB5.out.size)
 clear ho5 hs5 hb5 hl5 PO x0 x1 hl0 HX0 HG0 HG1 HBA HEN HQ HR
 go_wp2_with (at_builtin; refine wpList_onto _ rfl _ _ 22 27 2 32 _ Tryz.underlying22 entInfoR rfl (by decide) (by decide) rfl B _ an (flat eslotC S) rfl HO5.out _ 1 _ _ rfl HL5.out O5.out N.out SZ5.out ?_)
 all_goals
   intro v6 w6 hown6 hg6
   have HT := hid (kept_told HE.out HBB.out HB5.out HS5.out hown6 hg6)
   clear hown6 hg6
   go_wp2
   go_ret
   exact HT.out
end Go.Proofs.YtnbekpblmkdnlaaGreatDoor

namespace Go.Proofs.YtnbekpblmkdnlaaGreatDoor
open Go.RowKit

theorem run_appendIn (w : World) (t ty e sz : Nat) (g n c : Nat) (cur : Array Value) (et : TypeId) (a : Addr) (m mc : Nat) (news : List Value)
   (hu : Tryz.prog.underlying t = some (.slice e)) (hs : (Tryz.prog.info? e).map (·.size) = some sz) (hg : w.heap[g]? = some (.cells cur et (0, 0)))
   (hl : news.length = m * sz) (hsrc : ∀ j v, news[j]? = some v → w.cell? (a.add j) = some v) (h1 : ∀ v ∈ news, v.oneCell' = true) (hroom : n + m ≤ c) (hfit : n * sz + news.length ≤ cur.size) :
   (Builtin.append_ #[t, t] ty #[.slice (some ⟨g, 0, none⟩) n c, .slice (some a) m mc]).run Tryz.prog w = .ok (.slice (some ⟨g, 0, none⟩) (n + m) c) (w.setRow g (cur.toList.take (n * sz) ++ news ++ cur.toList.drop (n * sz + news.length)).toArray) := by
 cases hq : Tryz.prog.info? e with
 | none => simp [hq] at hs
 | some i =>
   have hi : i.size = sz := by simpa [hq] using hs
   subst hi
   have hfc := run_firstCells_some (P := Tryz.prog) w i.size m a m mc news hl hsrc
   have hst := run_storeCells_at Tryz.prog g (n * i.size) et news 0 cur w hg (by simpa using hfit) h1
   simp only [Nat.add_zero] at hst
   simp [Builtin.append_, run_underlying hu, sizeOf, typeInfo, hq, Builtin.lenOf, hroom, hfc, Addr.add_lit, hst]
theorem step_appendIn (w : World) {ops : Array Oper} {o : Oper} {a : Act} {K : Act → World → Prop} {Q : Exit → Act → World → Prop} {E : Prop} (hgd : o.guard = none) (s x : Operand) (t e sz : Nat)
   (ho : o.op = .call { callee := .builtin .append, args := #[s, x], argTypes := #[t, t] }) (hu : Tryz.prog.underlying t = some (.slice e)) (hs : (Tryz.prog.info? e).map (·.size) = some sz)
   (g n c : Nat) (cur : Array Value) (et : TypeId) (ad : Addr) (m mc : Nat) (news : List Value) (hd : a.eval s = .slice (some ⟨g, 0, none⟩) n c) (hx : a.eval x = .slice (some ad) m mc)
   (hg : w.heap[g]? = some (.cells cur et (0, 0))) (hl : news.length = m * sz) (hsrc : ∀ j v, news[j]? = some v → w.cell? (ad.add j) = some v) (h1 : ∀ v ∈ news, v.oneCell' = true) (hroom : n + m ≤ c) (hfit : n * sz + news.length ≤ cur.size)
   (h : ∀ w', w'.heap[g]? = some (.cells (cur.toList.take (n * sz) ++ news ++ cur.toList.drop (n * sz + news.length)).toArray et (0, 0)) → w.grownBy w' (some g) → K (a.put o.dst (.slice (some ⟨g, 0, none⟩) (n + m) c)) w') :
   if Region.wanted o (yielded ops a.tmps) = true then Oper.wp Tryz.prog o a w K Q else E := by
 have hw : Region.wanted o (yielded ops a.tmps) = true := by simp [Region.wanted, hgd]
 rw [if_pos hw]
 have hrun := fun ty => run_appendIn w t ty e sz g n c cur et ad m mc news hu hs hg hl hsrc h1 hroom hfit
 unfold Oper.wp execOp
 simp only [ho, resolve, invoke, builtin, Sem.run_bind, Sem.run_pure, Result.andThen_ok, List.map_toArray, List.map_cons, List.map_nil, hd, hx, hrun]
 exact h _ (setRow_heap w g cur _ et _ hg) (grown_setRow _ _ _)
theorem run_clearIn (w : World) (t ty e : Nat) (z : Value) (Z : List Value) (g o c : Nat) (cur : Array Value) (et : TypeId)
   (hu : Tryz.prog.underlying t = some (.slice e)) (hz : ∀ w, (zeroValue e).run Tryz.prog w = .ok z w) (hZ : (Builtin.zeroCells z.cells 1).toList = Z) (hg : w.heap[g]? = some (.cells cur et (0, 0))) (h1 : ∀ v ∈ Z, v.oneCell' = true) (hfit : o + Z.length ≤ cur.size) :
   (Builtin.clear_ #[t] ty #[.slice (some ⟨g, o, none⟩) 1 c]).run Tryz.prog w = .ok (.tuple #[]) (w.setRow g (cur.toList.take o ++ Z ++ cur.toList.drop (o + Z.length)).toArray) := by
 have hst := run_storeCells_at Tryz.prog g o et Z 0 cur w hg (by simpa using hfit) h1
 simp only [Nat.add_zero] at hst
 simp [Builtin.clear_, run_underlying hu, hz, hZ, hst]
theorem del_list {X F Z : List Value} {i N s c : Nat} (hF : X.take ((N + 1) * s) = F) (hX : X.length = c * s) (hi : i ≤ N) (hc : N + 1 ≤ c) (hZ : Z.length = s) :
   ((X.take (i * s) ++ F.drop ((i + 1) * s) ++ X.drop (i * s + (F.drop ((i + 1) * s)).length)).take (N * s) ++ Z ++ (X.take (i * s) ++ F.drop ((i + 1) * s) ++ X.drop (i * s + (F.drop ((i + 1) * s)).length)).drop (N * s + Z.length)).take (N * s) = F.take (i * s) ++ F.drop ((i + 1) * s) ∧
   ((X.take (i * s) ++ F.drop ((i + 1) * s) ++ X.drop (i * s + (F.drop ((i + 1) * s)).length)).take (N * s) ++ Z ++ (X.take (i * s) ++ F.drop ((i + 1) * s) ++ X.drop (i * s + (F.drop ((i + 1) * s)).length)).drop (N * s + Z.length)).length = c * s ∧
   (X.take (i * s) ++ F.drop ((i + 1) * s) ++ X.drop (i * s + (F.drop ((i + 1) * s)).length)).length = c * s := by
 have h1 : (i + 1) * s ≤ (N + 1) * s := Nat.mul_le_mul_right _ (by omega)
 have h2 : (N + 1) * s ≤ c * s := Nat.mul_le_mul_right _ hc
 have e1 : (i + 1) * s = i * s + s := by rw [Nat.add_mul, Nat.one_mul]
 have e2 : (N + 1) * s = N * s + s := by rw [Nat.add_mul, Nat.one_mul]
 have hFl : F.length = (N + 1) * s := by rw [← hF, List.length_take]; omega
 have hta : X.take (i * s) = F.take (i * s) := by rw [← hF, List.take_take]; congr 1; omega
 have hlen : (X.take (i * s) ++ F.drop ((i + 1) * s) ++ X.drop (i * s + (F.drop ((i + 1) * s)).length)).length = c * s := by
   simp only [List.length_append, List.length_take, List.length_drop, hFl, hX]
   omega
 have hA : (X.take (i * s) ++ F.drop ((i + 1) * s)).length = N * s := by
   simp only [List.length_append, List.length_take, List.length_drop, hFl, hX]
   omega
 refine ⟨?_, ?_, hlen⟩
 · rw [List.append_assoc, List.take_append_of_le_length (by rw [List.length_take, hlen]; omega), List.take_take, Nat.min_self, List.take_append_of_le_length (by rw [hA]; exact Nat.le_refl _), ← hA, List.take_length, hta]
 · generalize (X.take (i * s) ++ F.drop ((i + 1) * s) ++ X.drop (i * s + (F.drop ((i + 1) * s)).length)) = Y at *
   simp only [List.length_append, List.length_take, List.length_drop, hZ, hlen]
   omega
abbrev zeroEnt : List Value := [.int .i64 0, .slice none 0 0]
theorem zeroEnt_one : ∀ v ∈ zeroEnt, v.oneCell' = true := fun v hv => by
 rcases List.mem_cons.1 hv with rfl | hv
 · rfl
 · obtain rfl := List.mem_singleton.1 hv; rfl
theorem entSize : (Tryz.prog.info? 27).map (·.size) = some 2 := by kernel_rfl
theorem zeroEntV (w : World) : (zeroValue 27).run Tryz.prog w = .ok (.agg #[.int .i64 0, .slice none 0 0]) w := by kernel_rfl
theorem zeroEntC : (Builtin.zeroCells (Value.agg #[.int .i64 0, .slice none 0 0]).cells 1).toList = zeroEnt := by kernel_rfl
theorem slice_both {t e sz : Nat} (hu : Tryz.prog.underlying t = some (.slice e)) (hz : ∀ w, (sizeOf e).run Tryz.prog w = .ok sz w) (base : Option Addr) (n c k m : Nat) (hk : k ≤ m) (hm : m ≤ c) (w : World) :
   (Instr.slice t (.slice base n c) (some (.int .i64 (k : Int))) (some (.int .i64 (m : Int))) none).run Tryz.prog w = .ok (.slice (cutB base c k sz) (m - k) (c - k)) w := by
 have h2 : ((k : Int)).toNat = k := Int.toNat_natCast k
 have h3 : ((m : Int)).toNat = m := Int.toNat_natCast m
 have hur : ∀ w, (underlying t).run Tryz.prog w = .ok (.slice e) w := fun w => by simp [underlying, go_sem, hu]
 simp [Instr.slice, Instr.sliceBounds, Instr.sliceBound, go_sem, hur, hz, hk, hm, cutB]

set_option maxHeartbeats 4000000 in
set_option maxRecDepth 100000 in
theorem delete_calls (S : List ESlot) (i N B : Nat) (v : Value) (w : World) (hi : i ≤ N) (ho : w.ownsRow B 27 2 v (N + 1) (flat eslotC S)) :
   Calls Tryz.prog 48 #[v, .int .i64 i, .int .i64 ((i : Int) + 1)] w fun e w2 => ∃ v2, e = .returned v2 ∧ w2.ownsRow B 27 2 v2 N (flat eslotC (S.take i ++ S.drop (i + 1))) ∧ w.grownBy w2 v.ownBlock := by
 have hlF := ho.1
 rcases ho.2 with ⟨_, h0⟩ | ⟨g, c, cur, rfl, hBg, hg, hnc, hcm, hcs, hF⟩
 · omega
 have HCM := hid hcm
 unfold maxLen at hcm
 have HG : Hid (w.drew.heap[g]? = some (.cells cur 27 (0, 0))) := hg
 obtain ⟨F, hFe⟩ : ∃ F, flat eslotC S = F := ⟨_, rfl⟩
 rw [hFe] at hF hlF
 have HD := hid (del_list (Z := zeroEnt) (s := 2) hF (by simpa using hcs) hi hnc rfl)
 have HFD : Hid (F.take (i * 2) ++ F.drop ((i + 1) * 2) = flat eslotC (S.take i ++ S.drop (i + 1))) := by
   show _ = _
   rw [flat_append, flat_take eslotC_length, flat_drop eslotC_length, hFe]
 have HONE : Hid (∀ u ∈ F.drop ((i + 1) * 2), u.oneCell' = true) := fun u hu => by
   have := List.mem_of_mem_drop hu
   rw [← hFe] at this
   obtain ⟨s, _, h⟩ := List.mem_flatMap.1 this
   exact eslotC_one s u h
 have hdl : (F.drop ((i + 1) * 2)).length = (N - i) * 2 := by rw [List.length_drop, hlF]; omega
 have HDL := hid hdl
 have HBG := hid hBg
 have HFIT : Hid (i * 2 + (F.drop ((i + 1) * 2)).length ≤ cur.size) := by show _ ≤ _; rw [hdl, hcs]; omega
 have HROOM : Hid (i + (N - i) ≤ c) := by show _ ≤ _; omega
 have HFL : Hid ((F.take (i * 2) ++ F.drop ((i + 1) * 2)).length = N * 2) := by show _ = _; rw [List.length_append, List.length_take, hdl, hlF]; omega
 obtain ⟨ad, had, hsrc⟩ : ∃ ad : Addr, cutB (some ⟨g, 0, none⟩) c (i + 1) 2 = some ad ∧ ∀ j u, (F.drop ((i + 1) * 2))[j]? = some u → w.drew.cell? (ad.add j) = some u := by
   by_cases h : c = i + 1
   · refine ⟨⟨g, 0, none⟩, by unfold cutB; rw [if_pos h], fun j u hu => ?_⟩
     have := (List.getElem?_eq_some_iff.1 hu).1
     rw [hdl] at this
     omega
   · refine ⟨⟨g, (i + 1) * 2, none⟩, by unfold cutB; rw [if_neg h]; simp [Addr.add_lit], fun j u hu => ?_⟩
     rw [Addr.add_lit]
     rw [List.getElem?_drop, ← hF] at hu
     have h2 : cur.toList[(i + 1) * 2 + j]? = some u := by
       by_cases hj : (i + 1) * 2 + j < (N + 1) * 2
       · rw [List.getElem?_take_of_lt hj] at hu; exact hu
       · rw [List.getElem?_eq_none (by rw [List.length_take]; omega)] at hu; cases hu
     show w.cell? _ = some u
     simp only [World.cell?, hg, Option.isSome_none, Bool.false_eq_true, if_false]
     simpa using h2
 have HSRC := hid hsrc
 have hne : ((i : Int) == (i : Int) + 1) = false := by simp; omega
 have hic : i ≤ c := by omega
 have hjc : i + 1 ≤ c := by omega
 have hNc : N ≤ c := by omega
 have hNc1 : N + 1 ≤ c := by omega
 have hi2 : (i : Int) ≤ (N : Int) := by omega
 have hs1 := slice_head (t := 22) Tryz.underlying22 Tryz.sizeOf27 (some ⟨g, 0, none⟩) (N + 1) c i hic
 have hs2 : ∀ w, (Instr.slice 22 (.slice (some ⟨g, 0, none⟩) (N + 1) c) (some (.int .i64 ((i : Int) + 1))) none none).run Tryz.prog w = .ok (.slice (some ad) (N - i) (c - (i + 1))) w := fun w => by
   have h := slice_run (t := 22) Tryz.underlying22 Tryz.sizeOf27 (some ⟨g, 0, none⟩) (N + 1) c (i + 1) (by omega) w
   rw [show ((i + 1 : Nat) : Int) = (i : Int) + 1 from by omega, had, show N + 1 - (i + 1) = N - i from by omega] at h
   exact h
 have hs3 : ∀ w, (Instr.slice 22 (.slice (some ⟨g, 0, none⟩) N c) (some (.int .i64 (N : Int))) (some (.int .i64 ((N : Int) + 1))) none).run Tryz.prog w = .ok (.slice (some ⟨g, N * 2, none⟩) 1 (c - N)) w := fun w => by
   have h := slice_both (t := 22) Tryz.underlying22 Tryz.sizeOf27 (some ⟨g, 0, none⟩) N c N (N + 1) (Nat.le_succ _) hNc1 w
   rw [show ((N + 1 : Nat) : Int) = (N : Int) + 1 from by omega, show N + 1 - N = 1 from by omega] at h
   rw [h]
   unfold cutB
   rw [if_neg (by omega)]
   simp [Addr.add_lit]
 have hc0 : cutB (some ⟨g, 0, none⟩) c 0 2 = some ⟨g, 0, none⟩ := by unfold cutB; split <;> simp [Addr.add_lit]
 rw [hc0] at hs1
 have HN : Hid (i + (N - i) = N) := by show _ = _; omega
 clear hsrc hF hFe hlF hcs hBg hg ho hdl hc0 had
 go_enter Tryz.func48, Tryz.ntmps48
 go_wp2_with fail
 go_region_law (refine step_appendIn w.drew rfl _ _ 22 27 2 rfl Tryz.underlying22 entSize g i c cur 27 ad (N - i) (c - (i + 1)) (F.drop ((i + 1) * 2)) rfl rfl HG.out HDL.out HSRC.out HONE.out HROOM.out HFIT.out ?_; intro w1 hg1 hgr1; rw [HN.out])
 obtain ⟨w2, hcl, hg2, hgr2⟩ : ∃ w2, (∀ ty, (Builtin.clear_ #[22] ty #[.slice (some ⟨g, N * 2, none⟩) 1 (c - N)]).run Tryz.prog w1 = .ok (.tuple #[]) w2) ∧ w2.heap[g]? = some (.cells ((cur.toList.take (i * 2) ++ F.drop ((i + 1) * 2) ++ cur.toList.drop (i * 2 + (F.drop ((i + 1) * 2)).length)).take (N * 2) ++ zeroEnt ++ (cur.toList.take (i * 2) ++ F.drop ((i + 1) * 2) ++ cur.toList.drop (i * 2 + (F.drop ((i + 1) * 2)).length)).drop (N * 2 + zeroEnt.length)).toArray 27 (0, 0)) ∧ w1.grownBy w2 (some g) := by
   refine ⟨_, fun ty => run_clearIn w1 22 ty 27 (.agg #[.int .i64 0, .slice none 0 0]) zeroEnt g (N * 2) (c - N) _ 27 Tryz.underlying22 zeroEntV zeroEntC hg1 zeroEnt_one ?_, setRow_heap w1 g _ _ _ _ hg1, grown_setRow _ _ _⟩
   have h := HD.out.2.2
   simp only [List.size_toArray]
   rw [h]
   show N * 2 + 2 ≤ c * 2
   omega
 have HOW : Hid (w2.ownsRow B 27 2 (.slice (some ⟨g, 0, none⟩) N c) N (flat eslotC (S.take i ++ S.drop (i + 1)))) := by
   refine ⟨?_, .inr ⟨g, c, _, rfl, HBG.out, hg2, hNc, HCM.out, ?_, ?_⟩⟩
   · rw [← HFD.out]; exact HFL.out
   · have h := HD.out.2.1
     simp only [List.size_toArray]
     exact h
   · have h := HD.out.1
     rw [← HFD.out]
     exact h
 have HGW : Hid (w.grownBy w2 (some g)) := by
   have h1 : w.grownBy w1 (some g) := ⟨hgr1.os, hgr1.tape, hgr1.output, hgr1.size, hgr1.block⟩
   exact grown_trans h1 hgr2
 clear hg2 hgr2 hg1 hgr1
 go_wp2
 go_ret
 exact ⟨_, rfl, HOW.out, HGW.out⟩
end Go.Proofs.YtnbekpblmkdnlaaGreatDoor

namespace Go.Proofs.YtnbekpblmkdnlaaGreatDoor
open Go.RowKit

set_option maxHeartbeats 16000000 in
set_option maxRecDepth 100000 in
theorem refCome_calls {es : List Ent} {m : Nat} {dn : Nat → Bool} {bq : ByteArray → Int} {r : Rep} (h : GoodR es m dn bq r) (e : Ent) (he : RightEnt e) (rv ev : Value) (w0 w : World) (h0 : Below w0.heap.size w0 w) (hr : RepAt w0 w rv r) (hev : EntAt w0 w ev e) :
   Calls Tryz.prog 26 #[rv, ev] w fun x w' => RepNumAt w0 w w' (comeR r e) x := by
 obtain ⟨cb, cn, cc, db, dn', dc, sb, sn, sc, eb, en, ec, ab, an, ac, S, rfl, hp⟩ := hr
 obtain ⟨qb, qn, qc, rfl, hq0⟩ := hev
 have hl := hp.lies h0
 have hq := hq0.is h0
 have HQ0 := hid hq0
 have HP := hid hp
 have H0 := hid h0
 have HGR := hid h
 have HER := hid he
 have HQ := hid hq
 have HL := hid hl
 have HAN := hid hl.early.len
 have ham := Nat.le_trans hl.early.hdr.le hl.early.hdr.max
 unfold maxLen at ham
 have HX0 := hid (Box.new w (repA cb cn cc db dn' dc sb sn sc eb en ec r.eng.base r.next ab an ac) 35)
 have HG0 := hid (grew w (.cells (repA cb cn cc db dn' dc sb sn sc eb en ec r.eng.base r.next ab an ac) 35))
 have HE0 := hid (Box.new (w.alloc (.cells (repA cb cn cc db dn' dc sb sn sc eb en ec r.eng.base r.next ab an ac) 35)) #[.int .i64 e.1, .slice qb qn qc] 27)
 have HG1 := hid (grew (w.alloc (.cells (repA cb cn cc db dn' dc sb sn sc eb en ec r.eng.base r.next ab an ac) 35)) (.cells #[.int .i64 e.1, .slice qb qn qc] 27))
 have HZ0 := hid (Box.new ((w.alloc (.cells (repA cb cn cc db dn' dc sb sn sc eb en ec r.eng.base r.next ab an ac) 35)).alloc (.cells #[.int .i64 e.1, .slice qb qn qc] 27)) nilR 35)
 have HG2 := hid (grew ((w.alloc (.cells (repA cb cn cc db dn' dc sb sn sc eb en ec r.eng.base r.next ab an ac) 35)).alloc (.cells #[.int .i64 e.1, .slice qb qn qc] 27)) (.cells nilR 35))
 rw [World.size_alloc] at HE0 HZ0
 rw [World.size_alloc] at HZ0
 have HXA := hid (HX0.out.below (below_deep HG1.out HG2.out))
 have HEA := hid (HE0.out.below HG2.out)
 have HBA := hid (below_deep HG0.out (below_deep HG1.out HG2.out))
 clear h he hq hl hq0 hp h0 HX0 HE0 HG0 HG1 HG2
 go_enter Tryz.func26, Tryz.ntmps26
 go_upto_region 1 with fail
 generalize ((w.alloc (.cells (repA cb cn cc db dn' dc sb sn sc eb en ec r.eng.base r.next ab an ac) 35)).alloc (.cells #[.int .i64 e.1, .slice qb qn qc] 27)).alloc (.cells nilR 35) = A at *
 have hb2 : w.heap.size < A.heap.size := HXA.out.lt
 have hb3 : w.heap.size + 1 < A.heap.size := HEA.out.lt
 have hb4 : w.heap.size + 1 + 1 < A.heap.size := HZ0.out.lt
 obtain ⟨x0, x1, x2, x3, x4, x5, x6⟩ := HXA.out.cells7
 have z0 := HEA.out.cell 0 _ rfl
 have z1 := HEA.out.cell 1 _ rfl
 have HH0 : Hid (decide (e.1 < r.next) = hadTo r e 0) := (had_zero r e).symm
 go_wp2
 clear x0 x1 x2 x3 x4 x5 x6 z0 z1
 go_loopw [6, 20] (fun hv iv wr => ∃ (i : Nat) (bb : Bool), hv = .bool bb ∧ iv = .int .i64 i ∧ i ≤ an ∧ Hid (bb = hadTo r e i) ∧ Hid (Below A.heap.size A wr)) (fun _ iv _ => an - (intOf iv).toNat)
 case atStart => exact ⟨0, _, rfl, rfl, Nat.zero_le _, HH0, Below.refl _ _⟩
 case round =>
   clear HH0
   obtain ⟨i, bb, rfl, rfl, hi, HH, HBR⟩ := hrel
   by_cases hlt : i < an
   · have hil : i < r.early.length := by rw [← HAN.out]; exact hlt
     have j1 : (i : Int) < (an : Int) := by omega
     have j2 : (0 : Int) ≤ (i : Int) := by omega
     rcases (HL.out.early.below (below_deep HBA.out HBR.out)).run with h | ⟨b1, o1, rfl, hrun⟩
     · omega
     obtain ⟨pb, pn, pc, k0, k1, -⟩ := hrun i hlt
     have hb1 : b1 < wr.heap.size := by simpa using World.block_lt_of_cell? _ _ k0
     have HN := hid (had_next (e := e) hil)
     have HG := hid (grew wr (.cells #[.int .i64 (r.early.getD i default).1, .slice pb pn pc] 27))
     have y0 := box_cell wr #[.int .i64 (r.early.getD i default).1, .slice pb pn pc] 27 0 _ rfl
     have z0 := (HEA.out.below (below_deep HBR.out HG.out)).cell 0 _ rfl
     have hzl : w.heap.size + 1 < wr.heap.size := Nat.lt_of_lt_of_le hb3 HBR.out.size
     clear hrun
     generalize (r.early.getD i default).1 = q at *
     cases bb with
     | true =>
       go_wp2
       go_roundw
       case rel => exact ⟨i + 1, true, rfl, by go_num, hlt, by show _ = _; rw [HN.out, ← HH.out]; rfl, below_deep HBR.out HG.out⟩
       case measure => simp [intOf]; omega
     | false =>
       go_wp2
       go_roundw
       case rel => exact ⟨i + 1, _, rfl, by go_num, hlt, by show _ = _; rw [HN.out, ← HH.out, Bool.false_or]; rfl, below_deep HBR.out HG.out⟩
       case measure => simp [intOf]; omega
   · obtain rfl : i = an := by omega
     have HHR : Hid (bb = hadR r e) := by show _ = _; rw [HH.out]; exact had_all r e (by rw [← HAN.out]; exact Nat.le_refl _)
     have HXR := hid (HXA.out.below HBR.out)
     have HER2 := hid (HEA.out.below HBR.out)
     have HZR := hid (HZ0.out.below HBR.out)
     have HBW := hid (below_deep HBA.out HBR.out)
     clear HH HXA HEA HZ0 HBA HBR
     have hb2 : w.heap.size < wr.heap.size := HXR.out.lt
     have hb3 : w.heap.size + 1 < wr.heap.size := HER2.out.lt
     have hb4 : w.heap.size + 1 + 1 < wr.heap.size := HZR.out.lt
     obtain ⟨x0, x1, x2, x3, x4, x5, x6⟩ := HXR.out.cells7
     obtain ⟨y0, y1, y2, y3, y4, y5, y6⟩ := HZR.out.cells7
     obtain ⟨g0, g1, g2, g3, g4, g5, g6⟩ := HZR.out.free7
     have hge : ¬ ((i : Int) < (i : Int)) := by omega
     cases bb with
     | true =>
       have HC : Hid (comeR r e = (r, 11)) := by show _ = _; unfold comeR; rw [if_pos HHR.out.symm]
       have HBF := hid (put7_box HZR.out (.slice cb cn cc) (.slice db dn' dc) (.slice sb sn sc) (.slice eb en ec) (.int .i64 r.eng.base) (.int .i64 r.next) (.slice ab i ac))
       have HBL := hid (put7_below HBW.out (show w.heap.size ≤ w.heap.size + 1 + 1 by omega) (.slice cb cn cc) (.slice db dn' dc) (.slice sb sn sc) (.slice eb en ec) (.int .i64 r.eng.base) (.int .i64 r.next) (.slice ab i ac))
       go_wp2
       refine bodyPost_ret (come_results _ (w.heap.size + 1 + 1) _ rfl rfl HBF.out) rfl ?_
       exact ⟨_, by rw [HC.out], by rw [HC.out]; exact ⟨_, _, _, _, _, _, _, _, _, _, _, _, _, _, _, _, rfl, HP.out.below HBL.out⟩, HBL.out⟩
     | false =>
       have hnh : hadR r e = false := HHR.out.symm
       have HNX := hid HGR.out.next
       have h4 := HGR.out.four
       have hi4 : i ≤ 4 := by rw [HAN.out]; exact h4
       obtain ⟨u0, u1, u2, u3, u4, u5, u6⟩ := HXR.out.free7
       have z0 := HER2.out.cell 0 _ rfl
       have z1 := HER2.out.cell 1 _ rfl
       by_cases hg : r.next < e.1
       · have hg' : e.1 > r.next := hg
         by_cases hm : 4 ≤ i
         · have hm' : (i : Int) ≥ 4 := by omega
           have HC : Hid (comeR r e = (r, 5)) := by
             show _ = _
             unfold comeR
             rw [if_neg (by rw [hnh]; simp), if_pos hg, if_pos (by rw [← HAN.out]; exact hm)]
           have HBF := hid (put7_box HZR.out (.slice cb cn cc) (.slice db dn' dc) (.slice sb sn sc) (.slice eb en ec) (.int .i64 r.eng.base) (.int .i64 r.next) (.slice ab i ac))
           have HBL := hid (put7_below HBW.out (show w.heap.size ≤ w.heap.size + 1 + 1 by omega) (.slice cb cn cc) (.slice db dn' dc) (.slice sb sn sc) (.slice eb en ec) (.int .i64 r.eng.base) (.int .i64 r.next) (.slice ab i ac))
           go_wp2
           refine bodyPost_ret (come_results _ (w.heap.size + 1 + 1) _ rfl rfl HBF.out) rfl ?_
           exact ⟨_, by rw [HC.out], by rw [HC.out]; exact ⟨_, _, _, _, _, _, _, _, _, _, _, _, _, _, _, _, rfl, HP.out.below HBL.out⟩, HBL.out⟩
         · have hm' : ¬ (i : Int) ≥ 4 := by omega
           have HC : Hid (comeR r e = (⟨r.eng, r.next, r.early ++ [e]⟩, 12)) := by
             show _ = _
             unfold comeR
             rw [if_neg (by rw [hnh]; simp), if_pos hg, if_neg (by rw [← HAN.out]; exact hm)]
           have HS := hid (HP.out.row.below (by decide) HBW.out)
           have O1 := hid (flatE_one S)
           have O2 := hid (eslotC_one (e.1, qb, qn, qc))
           have N1 : Hid ((0 + i) * 32 ≤ 140737488355328) := by show _ ≤ _; omega
           have N2 : Hid ((0 + i + 1) * 32 ≤ 140737488355328) := by show _ ≤ _; omega
           have L1 := hid (lit_rowH wr.drew wr.heap.size 27 2 wr.heap.size rfl (Nat.le_refl _))
           have L2 := hid (lit_rowH (wr.drew.alloc (.cells #[.int .i64 e.1, .slice qb qn qc] 27)) wr.heap.size 27 2 (wr.heap.size + 1) (by rw [World.size_alloc]; rfl) (Nat.le_succ _))
           have M1 := hid (lies_oneH wr.drew #[.int .i64 e.1, .slice qb qn qc] 27 2 wr.heap.size rfl rfl)
           have M2 := hid (lies_oneH (wr.drew.alloc (.cells #[] 27)) #[.int .i64 e.1, .slice qb qn qc] 27 2 (wr.heap.size + 1) (by rw [World.size_alloc]; rfl) rfl)
           have B0 := hid (step_drew (Below.refl wr.heap.size wr))
           go_upto_region 12 with fail
           go_region_law (first
             | (refine step_grow _ rfl _ _ 22 27 2 32 _ Tryz.underlying22 entInfoR rfl (by decide) (by decide) rfl wr.heap.size v1 (0 + i) ([] ++ flat eslotC S) rfl ?_ _ 1 _ (eslotC (e.1, qb, qn, qc)) rfl ?_ O2.out N2.out ?_ ?_; (first | exact hown1 | exact hown1.alloc _); (first | exact lies_one w1 _ _ 2 rfl | exact lies_litG M2.out hg1 (by omega) | exact lies_litG (M1.out.below (by decide) (grew _ _)) hg1 (by omega)); (first | exact hb1.size | exact (step_box hb1 _).size); intro v2 w2 hown2 hg2; have hb2 : Below wr.heap.size wr w2 := (by first | exact step_row hb1 hown1 hg2 | exact step_row (step_box hb1 _) (hown1.alloc _) hg2); have z1 := (HXR.out.below hb2).cells7.2.2.2.2.2.2; have fz := (HXR.out.below hb2).free 6; have hzl : w.heap.size < w2.heap.size := (HXR.out.below hb2).lt; obtain ⟨vb2, vc2, hve, hvl⟩ := Lies.owned hown2; subst hve)
             | (refine step_grow _ rfl _ _ 22 27 2 32 _ Tryz.underlying22 entInfoR rfl (by decide) (by decide) rfl wr.heap.size _ 0 [] rfl ?_ ab i ac (flat eslotC S) rfl ?_ O1.out N1.out ?_ ?_; (first | exact L1.out | exact L1.out.alloc _ | exact L2.out); (first | exact HS.out.below (by decide) (step_box B0.out _) | exact HS.out.below (by decide) (step_box (step_box B0.out _) _)); (first | exact (step_box B0.out _).size | exact (step_box (step_box B0.out _) _).size); intro v1 w1 hown1 hg1; have hb1 : Below wr.heap.size wr w1 := (by first | exact step_lit (step_box B0.out _) (Nat.le_refl _) hg1 | exact step_lit (step_box (step_box B0.out _) _) (Nat.le_refl _) hg1 | exact step_lit (step_box (step_box B0.out _) _) (Nat.le_succ _) hg1); have y0' := kept_cell hb1 z0; have y1' := kept_cell hb1 z1; have hyl' : w.heap.size + 1 < w1.heap.size := Nat.lt_of_lt_of_le hb3 hb1.size))
           all_goals simp only [Nat.zero_add, List.nil_append] at hown2 ⊢
           all_goals have HF := hid (put_early (s := (e.1, qb, qn, qc)) (x := e) HXR.out HP.out HZR.out HBW.out hb2 ⟨rfl, HQ0.out⟩ hown2)
           all_goals clear hown1 hg1 hb1 hown2 hg2 hb2 hvl HXR HER2 HZR HBW HS L1 L2 M1 M2 B0 O1 O2 N1 N2 fz hzl y0' y1' hyl'
           all_goals clear z1
           all_goals generalize w2.setCell ⟨w.heap.size, 6, none⟩ (.slice vb2 (i + 1) vc2) = V at *
           all_goals have hv2 : w.heap.size < V.heap.size := HF.out.1.lt
           all_goals have hv4 : w.heap.size + 1 + 1 < V.heap.size := HF.out.2.2.1.lt
           all_goals obtain ⟨x0, x1, x2, x3, x4, x5, x6⟩ := HF.out.1.cells7
           all_goals obtain ⟨y0, y1, y2, y3, y4, y5, y6⟩ := HF.out.2.2.1.cells7
           all_goals obtain ⟨g0, g1, g2, g3, g4, g5, g6⟩ := HF.out.2.2.1.free7
           all_goals have HBF := hid (put7_box HF.out.2.2.1 (.slice cb cn cc) (.slice db dn' dc) (.slice sb sn sc) (.slice eb en ec) (.int .i64 r.eng.base) (.int .i64 r.next) (.slice vb2 (i + 1) vc2))
           all_goals have HBL := hid (put7_below HF.out.2.2.2 (show w.heap.size ≤ w.heap.size + 1 + 1 by omega) (.slice cb cn cc) (.slice db dn' dc) (.slice sb sn sc) (.slice eb en ec) (.int .i64 r.eng.base) (.int .i64 r.next) (.slice vb2 (i + 1) vc2))
           all_goals have HRL := hid (HF.out.2.1 _ HBL.out (put7_off V (w.heap.size + 1 + 1) (.slice cb cn cc) (.slice db dn' dc) (.slice sb sn sc) (.slice eb en ec) (.int .i64 r.eng.base) (.int .i64 r.next) (.slice vb2 (i + 1) vc2)))
           all_goals go_wp2
           all_goals refine bodyPost_ret (come_results _ (w.heap.size + 1 + 1) _ rfl rfl HBF.out) rfl ?_
           all_goals exact ⟨_, by rw [HC.out], by rw [HC.out]; exact ⟨_, _, _, _, _, _, _, _, _, _, _, _, _, _, _, _, rfl, HRL.out⟩, HBL.out⟩
       · have hn : e.1 = r.next := by
           have := hnh
           unfold hadR at this
           simp at this
           omega
         have hg' : ¬ e.1 > r.next := hg
         have hoff : ∀ a, ab = some a → a.block ≠ w.heap.size ∧ a.block ≠ w.heap.size + 1 ∧ a.block ≠ w.heap.size + 1 + 1 := fun a ea => by
           obtain ⟨cur, z, hc⟩ := HP.out.kind a ea
           have := (Array.getElem?_eq_some_iff.1 hc).1
           omega
         have HCI := hid (ComeIn.mk HXR.out (HP.out.eng.below HBW.out) (HP.out.row.below (by decide) HBW.out) (HP.out.slots.below HBW.out) (HP.out.kind.below HBW.out) hoff HER2.out HZR.out HBW.out)
         have HCO : Hid (ComeOf r e r e es m dn bq) := ⟨HGR.out, hn, HER.out, by unfold comeR; rw [if_neg (by rw [hnh]; simp), if_neg hg]⟩
         clear hoff
         go_wp2
         clear x0 x1 x2 x3 x4 x5 x6 y0 y1 y2 y3 y4 y5 y6 g0 g1 g2 g3 g4 g5 g6 u0 u1 u2 u3 u4 u5 u6 z0 z1
         go_loopw [9] (fun _ wr => ∃ (cb : Option Addr) (cn cc : Nat) (db : Option Addr) (dn' dc : Nat) (sb : Option Addr) (sn sc : Nat) (eb : Option Addr) (en ec : Nat) (ab : Option Addr) (an ac : Nat) (qb : Option Addr) (qn qc : Nat) (S : List ESlot) (es : List Ent) (m : Nat) (dn : Nat → Bool) (bq : ByteArray → Int) (q : Rep) (x : Ent) (xi : Int), Hid (ComeIn w0 w wr cb cn cc db dn' dc sb sn sc eb en ec ab an ac xi qb qn qc S q) ∧ Hid (DeedsAt w0 wr qb qn qc x.2) ∧ Hid (ComeOf r e q x es m dn bq)) (fun _ wr => earlyLen wr w.heap.size)
         case atStart => exact ⟨_, _, _, _, _, _, _, _, _, _, _, _, _, _, _, _, _, _, S, es, m, dn, bq, r, e, _, HCI.out, HQ0.out.below HBW.out, HCO.out⟩
         case round =>
           clear HGR HER HQ HQ0 HL HP HAN ham hi hlt hge HXR HER2 HZR HBW HCI HCO HHR hnh HNX h4 hi4 hg hg' hn hb2 hb3 hb4
           obtain ⟨cb, cn, cc, db, dn', dc, sb, sn, sc, eb, en, ec, ab, an, ac, qb, qn, qc, S, es, m, dn, bq, q, x, xi, HCI, HDX, HCO⟩ := hrel
           have hln : earlyLen wr w.heap.size = an := early_len HCI.out.box
           have hb2 : w.heap.size < wr.heap.size := HCI.out.box.lt
           have hb3 : w.heap.size + 1 < wr.heap.size := HCI.out.ent.lt
           obtain ⟨x0, x1, x2, x3, x4, x5, x6⟩ := HCI.out.box.cells7
           have z1 := HCI.out.ent.cell 1 _ rfl
           have hfew := HCO.out.good.few
           have hsix := HCO.out.right.2.2.1
           have hq0 : 0 ≤ q.next ∧ q.next < 12 := by have h1 := HCO.out.right.1; have h2 := HCO.out.right.2.1; rw [HCO.out.num] at h1 h2; exact ⟨h1, h2⟩
           have HRD := hid HCO.out.right.2.2.2
           have PA := hid (refAddE_calls HCO.out.good.eng x.2 (by omega) (.agg #[.slice cb cn cc, .slice db dn' dc, .slice sb sn sc, .slice eb en ec, .int .i64 q.eng.base]) qb qn qc wr ⟨_, _, _, _, _, _, _, _, _, _, _, _, rfl, HCI.out.eng⟩ (HDX.out.is (below_deep H0.out HCI.out.below)))
           clear hfew hsix
           go_wp2_with fail
           refine PA.out.mono ?_
           rintro v w1 ⟨_, rfl, ⟨cb2, cn2, cc2, db2, dn2, dc2, sb2, sn2, sc2, eb2, en2, ec2, rfl, hl1⟩, hb1⟩
           simp only [addTo_right HRD.out] at hl1 ⊢
           have HCA := hid (HCI.out.added hb1 hl1)
           clear x0 x1 x2 x3 x4 x5 x6 z1 PA
           obtain ⟨x0, x1, x2, x3, x4, x5, x6⟩ := (HCI.out.box.below hb1).cells7
           obtain ⟨u0, u1, u2, u3, u4, u5, u6⟩ := (HCI.out.box.below hb1).free7
           have hb4 : w.heap.size < w1.heap.size := (HCI.out.box.below hb1).lt
           clear hl1 hb1 HCI
           go_upto_region 15 with fail
           generalize (((((w1.setCell ⟨w.heap.size, 0, none⟩ (.slice cb2 cn2 cc2)).setCell ⟨w.heap.size, 1, none⟩ (.slice db2 dn2 dc2)).setCell ⟨w.heap.size, 2, none⟩ (.slice sb2 sn2 sc2)).setCell ⟨w.heap.size, 3, none⟩ (.slice eb2 en2 ec2)).setCell ⟨w.heap.size, 4, none⟩ (.int .i64 (addAll q.eng x.2).base)) = V1 at *
           clear x0 x1 x2 x3 x4 x5 x6 u0 u1 u2 u3 u4 u5 u6 hb2 hb3 hb4
           have hb2 : w.heap.size < V1.heap.size := HCA.out.box.lt
           have x5 := HCA.out.box.cells7.2.2.2.2.2.1
           have u5 := HCA.out.box.free 5
           have HCB := hid (HCA.out.counted (q.next + 1))
           go_upto_region 16 with fail
           generalize V1.setCell ⟨w.heap.size, 5, none⟩ (.int .i64 (q.next + 1)) = V at *
           clear x5 u5 HCA hb2
           have hb2 : w.heap.size < V.heap.size := HCB.out.box.lt
           have x6 := HCB.out.box.cells7.2.2.2.2.2.2
           have HN := hid HCB.out.count
           have hn4 : an ≤ 4 := by rw [HN.out.2]; exact HCO.out.good.four
           go_wp2
           clear x6
           go_loopw [9, 70] (fun av iv wx => ∃ k : Nat, iv = .int .i64 k ∧ k ≤ an ∧ Hid (Below V.heap.size V wx) ∧ ((av = .int .i64 (-1) ∧ ∀ j, j < k → (q.early.getD j default).1 ≠ q.next + 1) ∨ ∃ j : Nat, j < k ∧ av = .int .i64 j ∧ (q.early.getD j default).1 = q.next + 1)) (fun _ iv _ => an - (intOf iv).toNat)
           case atStart => exact ⟨0, rfl, Nat.zero_le _, Below.refl _ _, .inl ⟨rfl, fun j h => absurd h (Nat.not_lt_zero _)⟩⟩
           case round =>
             obtain ⟨k, rfl, hk, HBX, hat⟩ := hrel
             by_cases hkn : k < an
             · have hkl : k < q.early.length := by rw [← HN.out.2]; exact hkn
               have j1 : (k : Int) < (an : Int) := by omega
               have j2 : (0 : Int) ≤ (k : Int) := by omega
               have HCX := hid (HCB.out.later HBX.out)
               rcases HCX.out.row.run with h | ⟨b1, o1, rfl, hrun⟩
               · omega
               have hkS : k < S.length := by rw [← HN.out.1]; exact hkn
               have he1 : (S.getD k default).1 = (q.early.getD k default).1 := (HCX.out.slots.2 k hkl).1
               obtain ⟨pb, pn, pc, k0, k1⟩ : ∃ pb pn pc, wr.cell? ⟨b1, o1 + k * 2, none⟩ = some (.int .i64 (q.early.getD k default).1) ∧ wr.cell? ⟨b1, o1 + k * 2 + 1, none⟩ = some (.slice pb pn pc) :=
                 ⟨_, _, _, by rw [← he1]; exact hrun.at_ eslotC_length hkS (j := 0) rfl, hrun.at_ eslotC_length hkS (j := 1) rfl⟩
               clear he1 hrun
               generalize hv : (q.early.getD k default).1 = z at *
               have hb1 : b1 < wr.heap.size := by simpa using World.block_lt_of_cell? _ _ k0
               have HG := hid (grew wr (.cells #[.int .i64 z, .slice pb pn pc] 27))
               have y0 := box_cell wr #[.int .i64 z, .slice pb pn pc] 27 0 _ rfl
               have x5 := (HCX.out.box.below HG.out).cells7.2.2.2.2.2.1
               have hxl : w.heap.size < wr.heap.size := HCX.out.box.lt
               by_cases hz : z = q.next + 1
               · subst hz
                 go_wp2
                 go_roundw
                 case rel => exact ⟨k + 1, by go_num, hkn, below_deep HBX.out HG.out, .inr ⟨k, Nat.lt_succ_self k, rfl, hv⟩⟩
                 case measure => simp [intOf]; omega
               · have hz' : (z == q.next + 1) = false := by simpa using hz
                 go_wp2
                 go_roundw
                 case rel =>
                   refine ⟨k + 1, by go_num, hkn, below_deep HBX.out HG.out, ?_⟩
                   rcases hat with ⟨h1, h2⟩ | ⟨j, h1, h2, h3⟩
                   · refine .inl ⟨h1, fun j hj => ?_⟩
                     by_cases hjk : j = k
                     · subst hjk; rw [hv]; exact hz
                     · exact h2 j (by omega)
                   · exact .inr ⟨j, by omega, h2, h3⟩
                 case measure => simp [intOf]; omega
             · obtain rfl : k = an := by omega
               have HCX := hid (HCB.out.later HBX.out)
               clear HCB HBX
               rcases hat with ⟨rfl, hno⟩ | ⟨j, hj, rfl, hyes⟩
               · have HST := hid (HCO.out.stop fun j h => hno j (by rw [HN.out.2]; exact h))
                 have hb2 : w.heap.size < wr.heap.size := HCX.out.box.lt
                 have hb4 : w.heap.size + 1 + 1 < wr.heap.size := HCX.out.zero.lt
                 obtain ⟨x0, x1, x2, x3, x4, x5, x6⟩ := HCX.out.box.cells7
                 obtain ⟨y0, y1, y2, y3, y4, y5, y6⟩ := HCX.out.zero.cells7
                 obtain ⟨g0, g1, g2, g3, g4, g5, g6⟩ := HCX.out.zero.free7
                 have HBF := hid (put7_box HCX.out.zero (.slice cb2 cn2 cc2) (.slice db2 dn2 dc2) (.slice sb2 sn2 sc2) (.slice eb2 en2 ec2) (.int .i64 (addAll q.eng x.2).base) (.int .i64 (q.next + 1)) (.slice ab k ac))
                 have HBL := hid (put7_below HCX.out.below (show w.heap.size ≤ w.heap.size + 1 + 1 by omega) (.slice cb2 cn2 cc2) (.slice db2 dn2 dc2) (.slice sb2 sn2 sc2) (.slice eb2 en2 ec2) (.int .i64 (addAll q.eng x.2).base) (.int .i64 (q.next + 1)) (.slice ab k ac))
                 have HRL := hid (HCX.out.told (.slice cb2 cn2 cc2) (.slice db2 dn2 dc2) (.slice sb2 sn2 sc2) (.slice eb2 en2 ec2) (.int .i64 (addAll q.eng x.2).base) (.int .i64 (q.next + 1)) (.slice ab k ac))
                 go_wp2
                 refine bodyPost_ret (come_results _ (w.heap.size + 1 + 1) _ rfl rfl HBF.out) rfl ?_
                 exact ⟨_, by rw [HST.out], by rw [HST.out]; exact ⟨_, _, _, _, _, _, _, _, _, _, _, _, _, _, _, _, rfl, HRL.out⟩, HBL.out⟩
               · have HNX := hid (HCO.out.step (by rw [← HN.out.2]; exact hj) hyes)
                 have j0 : ¬ (j : Int) < 0 := by omega
                 have j1 : (j : Int) < (k : Int) := by omega
                 have j2 : (0 : Int) ≤ (j : Int) := by omega
                 rcases HCX.out.row.run with h | ⟨b1, o1, rfl, hrun⟩
                 · omega
                 have hjl : j < q.early.length := by rw [← HN.out.2]; exact hj
                 have hjS : j < S.length := by rw [← HN.out.1]; exact hj
                 have hsj := HCX.out.slots.2 j hjl
                 obtain ⟨s, k0, k1, hsx⟩ : ∃ s : ESlot, wr.cell? ⟨b1, o1 + j * 2, none⟩ = some (.int .i64 s.1) ∧ wr.cell? ⟨b1, o1 + j * 2 + 1, none⟩ = some (.slice s.2.1 s.2.2.1 s.2.2.2) ∧ ESlotAt w0 wr s (q.early.getD j default) :=
                   ⟨S.getD j default, hrun.at_ eslotC_length hjS (j := 0) rfl, hrun.at_ eslotC_length hjS (j := 1) rfl, hsj⟩
                 obtain ⟨si, pb, pn, pc⟩ := s
                 have HSD := hid (HCX.out.held (si, pb, pn, pc) hsx.2)
                 have HCT := hid (HCX.out.take (si, pb, pn, pc))
                 clear hrun hsj hsx
                 simp only at k0 k1 HCT HSD
                 have hb1 : b1 < wr.heap.size := by simpa using World.block_lt_of_cell? _ _ k0
                 have hb2 : w.heap.size < wr.heap.size := HCX.out.box.lt
                 have hb3 : w.heap.size + 1 < wr.heap.size := HCX.out.ent.lt
                 have x6 := HCX.out.box.cells7.2.2.2.2.2.2
                 have y0 := HCX.out.ent.cell 0 _ rfl
                 have y1 := HCX.out.ent.cell 1 _ rfl
                 have g0 := HCX.out.ent.free 0
                 have g1 := HCX.out.ent.free 1
                 go_upto_region 26 with fail
                 generalize (wr.setCell ⟨w.heap.size + 1, 0, none⟩ (.int .i64 si)).setCell ⟨w.heap.size + 1, 1, none⟩ (.slice pb pn pc) = W at *
                 clear hb1 hb2 hb3 x6 y0 y1 g0 g1 k0 k1 HCX
                 have hb2 : w.heap.size < W.heap.size := HCT.out.box.lt
                 have x6 := HCT.out.box.cells7.2.2.2.2.2.2
                 have hs1 := slice_head (t := 22) Tryz.underlying22 Tryz.sizeOf27 (some ⟨b1, o1, none⟩) k ac j (by have := HCT.out.row.hdr.le; omega)
                 have hw1 : IntKind.i64.wrap ((j : Int) + 1) = (j : Int) + 1 := by rw [IntKind.wrap_i64]; omega
                 have hs2 : ∀ w, (Instr.slice 22 (.slice (some ⟨b1, o1, none⟩) k ac) (some (.int .i64 ((j : Int) + 1))) none none).run Tryz.prog w = .ok (.slice (cutB (some ⟨b1, o1, none⟩) ac (j + 1) 2) (k - (j + 1)) (ac - (j + 1))) w := fun w => by
                   have h := slice_run (t := 22) Tryz.underlying22 Tryz.sizeOf27 (some ⟨b1, o1, none⟩) k ac (j + 1) (by omega) w
                   rw [show ((j + 1 : Nat) : Int) = (j : Int) + 1 from by omega] at h
                   exact h
                 have HH : Hid (Lies W 2 (cutB (some ⟨b1, o1, none⟩) ac 0 2) j ac ((flat eslotC S).take (j * 2))) := by
                   show Lies _ _ _ _ _ _
                   have := lies_cut (k := 0) (lies_take HCT.out.row (k := j) (by omega)) (Nat.zero_le _)
                   simpa using this
                 have HT := hid (lies_cut HCT.out.row (k := j + 1) (by omega))
                 have O1 : Hid (∀ u ∈ (flat eslotC S).take (j * 2), u.oneCell' = true) := fun u hu => flatE_one S u (List.mem_of_mem_take hu)
                 have O2 : Hid (∀ u ∈ (flat eslotC S).drop ((j + 1) * 2), u.oneCell' = true) := fun u hu => flatE_one S u (List.mem_of_mem_drop hu)
                 have N1 : Hid ((0 + j) * 32 ≤ 140737488355328) := by show _ ≤ _; omega
                 have N2 : Hid ((0 + j + (k - (j + 1))) * 32 ≤ 140737488355328) := by show _ ≤ _; omega
                 have L1 := hid (lit_rowH W.drew W.heap.size 27 2 W.heap.size rfl (Nat.le_refl _))
                 have B0 := hid (step_drew (Below.refl W.heap.size W))
                 generalize cutB (some ⟨b1, o1, none⟩) ac 0 2 = hb at *
                 generalize cutB (some ⟨b1, o1, none⟩) ac (j + 1) 2 = tb at *
                 go_region_law (first
                   | (refine step_grow _ rfl _ _ 22 27 2 32 _ Tryz.underlying22 entInfoR rfl (by decide) (by decide) rfl W.heap.size v1 (0 + j) ([] ++ (flat eslotC S).take (j * 2)) rfl ?_ tb (k - (j + 1)) (ac - (j + 1)) ((flat eslotC S).drop ((j + 1) * 2)) rfl ?_ O2.out N2.out ?_ ?_; (exact hown1); (exact HT.out.below (by decide) hb1); (exact hb1.size); intro v2 w2 hown2 hg2; have hb2 : Below W.heap.size W w2 := step_row hb1 hown1 hg2; have z1 := (HCT.out.box.below hb2).cells7.2.2.2.2.2.2; have fz := (HCT.out.box.below hb2).free 6; have hzl : w.heap.size < w2.heap.size := (HCT.out.box.below hb2).lt; obtain ⟨vb2, vc2, hve, hvl⟩ := Lies.owned hown2; subst hve)
                   | (refine step_grow _ rfl _ _ 22 27 2 32 _ Tryz.underlying22 entInfoR rfl (by decide) (by decide) rfl W.heap.size _ 0 [] rfl L1.out hb j ac ((flat eslotC S).take (j * 2)) rfl ?_ O1.out N1.out ?_ ?_; (exact HH.out.below (by decide) (step_box B0.out _)); (exact (step_box B0.out _).size); intro v1 w1 hown1 hg1; have hb1 : Below W.heap.size W w1 := step_lit (step_box B0.out _) (Nat.le_refl _) hg1; have x6' := (HCT.out.box.below hb1).cells7.2.2.2.2.2.2; have hxl' : w.heap.size < w1.heap.size := Nat.lt_of_lt_of_le hb2 hb1.size))
                 all_goals simp only [Nat.zero_add, List.nil_append] at hown2 ⊢
                 all_goals have HF := hid (HCT.out.putRow (T := S.take j ++ S.drop (j + 1)) (L := q.early.take j ++ q.early.drop (j + 1)) hb2 (by rw [flat_append, flat_take eslotC_length, flat_drop eslotC_length]; exact hown2) (HCT.out.slots.without hjl))
                 all_goals have HDF := hid (HCT.out.deeds hb2 (.slice vb2 (j + (k - (j + 1))) vc2) HSD.out)
                 all_goals clear hown1 hg1 hb1 hown2 hg2 hb2 hvl x6' hxl' z1 fz hzl
                 all_goals go_wp2
                 all_goals go_roundw
                 all_goals first
                   | exact ⟨_, _, _, _, _, _, _, _, _, _, _, _, _, _, _, _, _, _, _, _, _, _, _, _, _, _, HF, HDF, HNX⟩
                   | (rw [hln, early_len HF.out.box]; omega)
end Go.Proofs.YtnbekpblmkdnlaaGreatDoor
