/-
  Where a text is first among texts, told by its place; what is written in rows of an engine that the call owns.
  An entry kept behind others: the program's 'keep'.
  slices.Delete of one entry, in a row that the call owns: what is behind it moves up, in the row's own block.
-/
import Derived.Test.YtlhaeeenkgkdaaaGreatDoorRepFinds
import Derived.Test.YtlhaeeenkgkdaaaGreatDoorPlanNeeds
import Derived.Test.YtlhaeeenkgkdaaaGreatDoorRefGoE
import Derived.Test.YtlhaeeenkgkdaaaGreatDoorDeedRun
import Derived.Test.YtlhaeeenkgkdaaaGreatDoorRepOwn
import Derived.Test.YtlhaeeenkgkdaaaGreatDoorInsert
import Derived.Test.YtlhaeeenkgkdaaaGreatDoorComeIn
import Derived.Test.YtlhaeeenkgkdaaaGreatDoorRefRight
import Derived.Deep.RegionLaw
namespace Go.Proofs.YtlhaeeenkgkdaaaGreatDoor
open Go.RowKit

def IndexIs (l : List ByteArray) (k : ByteArray) (x : Int) : Prop := (x = -1 ∧ has l k = false) ∨ ∃ j : Nat, j < l.length ∧ x = j ∧ l.getD j default = k
theorem indexAt_calls (l : List ByteArray) (base : Option Addr) (n c : Nat) (k : ByteArray) (w : World) (ha : Texts w base n c l) :
   Calls Tryz.prog 84 #[.slice base n c, .string k] w fun e w' => (∃ x : Int, e = .returned (.int .i64 x) ∧ IndexIs l k x) ∧ w = w' := by
 have HN := hid (Texts.count ha)
 have hm := Nat.le_trans ha.hdr.le ha.hdr.max
 unfold maxLen at hm
 by_cases h0 : n = 0
 · subst h0
   have hl : l = [] := List.eq_nil_of_length_eq_zero (by have := HN.out; omega)
   subst hl
   clear ha
   go_enter Tryz.func84, Tryz.ntmps84
   go_wp2
   go_loop [8] (fun i => i = .int .i64 0) (fun _ => 0)
   case atStart => rfl
   case round =>
     obtain rfl := hrel
     go_wp2
     go_ret
     exact ⟨⟨-1, rfl, .inl ⟨rfl, rfl⟩⟩, rfl⟩
 rcases ha.run with h | ⟨b, o, rfl, h1⟩
 · exact absurd h h0
 have HC := hid h1
 clear h1 h0 ha
 go_enter Tryz.func84, Tryz.ntmps84
 go_wp2
 go_loop [8] (fun i => ∃ j : Nat, j ≤ n ∧ i = .int .i64 j ∧ Hid (has (l.take j) k = false)) (fun i => n - (intOf i).toNat)
 case atStart => exact ⟨0, Nat.zero_le _, rfl, rfl⟩
 case round =>
   obtain ⟨j, hj, rfl, HH⟩ := hrel
   by_cases hlt : j < n
   · have hjl : j < l.length := by rw [← HN.out]; exact hlt
     have HJL := hid hjl
     have c1 := HC.out j _ (strs_at hjl)
     have hi : (j : Int) < (n : Int) := by omega
     have HT := hid (has_snoc (l.take j) (l.getD j default) k)
     rw [← take_snoc_getD hjl, HH.out] at HT
     obtain ⟨x, hx0⟩ : ∃ x, l.getD j default = x := ⟨_, rfl⟩
     have HX := hid hx0
     rw [hx0] at c1 HT
     clear hx0
     by_cases hx : k = x
     · have hs := streq_true hx
       have HF : Hid (l.getD j default = k) := by show _ = _; rw [HX.out, hx]
       clear hx
       go_wp2
       go_ret
       exact ⟨⟨j, rfl, .inr ⟨j, HJL.out, rfl, HF.out⟩⟩, rfl⟩
     · have hs := streq_false hx
       have HF : Hid (has (l.take (j + 1)) k = false) := by
         show _ = _
         rw [HT.out]; simpa using fun e => hx e.symm
       clear hx
       go_wp2
       go_round
       case rel => exact ⟨j + 1, by omega, by go_num, HF⟩
       case measure => simp [intOf]; omega
   · go_wp2
     go_ret
     refine ⟨⟨-1, rfl, .inl ⟨rfl, ?_⟩⟩, rfl⟩
     have : l.take j = l := List.take_of_length_le (by rw [← HN.out]; omega)
     rw [← this, HH.out]

theorem ownedSet_ints {W : World} {B g n c p : Nat} {S : List Int} (h : W.ownsRow B 3 1 (.slice (some ⟨g, 0, none⟩) n c) n (intsC S)) (x : Int) : W.grownBy (W.setCell ⟨g, p, none⟩ (.int .i64 x)) (Value.slice (some ⟨g, 0, none⟩) n c).ownBlock := (World.ownsRow.stored h p (.int .i64 x)).2
theorem own_setState {W : World} {cb : Option Addr} {B g n sc p cn cc : Nat} {v1 v3 : Value} {e : Eng} (h : EngOwn W B cb cn cc v1 (.slice (some ⟨g, 0, none⟩) n sc) v3 e) (hn : n = e.state.length) (x : Int) :
   EngOwn (W.setCell ⟨g, p, none⟩ (.int .i64 x)) B cb cn cc v1 (.slice (some ⟨g, 0, none⟩) n sc) v3 ⟨e.chains, e.deeds, e.state.set p x, e.ends, e.base⟩ := by
 subst hn
 obtain ⟨hc, ⟨T, ho, hT⟩, hst, hen⟩ := h
 have hg := ownedSet_ints (p := p) hst x
 refine ⟨hc.grown hst (by decide) (by decide) hg, ⟨T, ho.kept hg (rows_apart ho hst (by decide)), hT.grown hst (by decide) (by decide) hg⟩, ?_, hen.kept hg (rows_apart hen hst (by decide))⟩
 show World.ownsRow _ _ _ _ _ (e.state.set p x).length _
 rw [List.length_set]
 exact ints_stored hst p x
theorem five_grown {W : World} {B g n c : Nat} {xs : List Value} (h : W.ownsRow B 83 5 (.slice (some ⟨g, 0, none⟩) n c) n xs) (o : Nat) (f : Bool) (x0 x1 x2 x3 : Int) : W.grownBy (fiveAt W g o f x0 x1 x2 x3) (Value.slice (some ⟨g, 0, none⟩) n c).ownBlock := by
 have s0 := World.ownsRow.stored h o (.bool f)
 have s1 := World.ownsRow.stored s0.1 (o + 1) (.int .i64 x0)
 have s2 := World.ownsRow.stored s1.1 (o + 2) (.int .i64 x1)
 have s3 := World.ownsRow.stored s2.1 (o + 3) (.int .i64 x2)
 have s4 := World.ownsRow.stored s3.1 (o + 4) (.int .i64 x3)
 exact grown_trans (grown_trans (grown_trans (grown_trans s0.2 s1.2) s2.2) s3.2) s4.2
theorem own_setEnds {W : World} {cb : Option Addr} {B g n ec p cn cc : Nat} {v1 v2 : Value} {e : Eng} (h : EngOwn W B cb cn cc v1 v2 (.slice (some ⟨g, 0, none⟩) n ec) e) (hn : n = e.ends.length) (hp : p < e.ends.length) (x : End3) :
   EngOwn (fiveAt W g (p * 5) x.1 (x.2 0) (x.2 1) (x.2 2) (x.2 3)) B cb cn cc v1 v2 (.slice (some ⟨g, 0, none⟩) n ec) ⟨e.chains, e.deeds, e.state, e.ends.set p x, e.base⟩ := by
 subst hn
 obtain ⟨hc, ⟨T, ho, hT⟩, hst, hen⟩ := h
 have hg := five_grown hen (p * 5) x.1 (x.2 0) (x.2 1) (x.2 2) (x.2 3)
 refine ⟨hc.grown hen (by decide) (by decide) hg, ⟨T, ho.kept hg (rows_apart ho hen (by decide)), hT.grown hen (by decide) (by decide) hg⟩, hst.kept hg (rows_apart hst hen (by decide)), ?_⟩
 show World.ownsRow _ _ _ _ _ (e.ends.set p x).length _
 rw [List.length_set]
 exact ends_stored hen hp x
theorem EngOwn.chains {w : World} {cb : Option Addr} {B cn cc : Nat} {v1 v2 v3 : Value} {e : Eng} (h : EngOwn w B cb cn cc v1 v2 v3 e) {cb' : Option Addr} {cn' cc' : Nat} {L : List Chn} (hc : ChK w cb' cn' cc' L) : EngOwn w B cb' cn' cc' v1 v2 v3 ⟨L, e.deeds, e.state, e.ends, e.base⟩ := ⟨hc, h.de, h.st, h.en⟩
end Go.Proofs.YtlhaeeenkgkdaaaGreatDoor

namespace Go.Proofs.YtlhaeeenkgkdaaaGreatDoor
open Go.RowKit

theorem EngOwn.grownE {w w' : World} {B B' n : Nat} {v : Value} {xs : List Value} {cb : Option Addr} {cn cc : Nat} {v1 v2 v3 : Value} {e : Eng} (h : EngOwn w B' cb cn cc v1 v2 v3 e) (ho : w.ownsRow B 26 2 v n xs) (hg : w.grownBy w' v.ownBlock) : EngOwn w' B' cb cn cc v1 v2 v3 e := by
 obtain ⟨hc, ⟨T, h2, hT⟩, hst, hen⟩ := h
 exact ⟨hc.grown ho (by decide) (by decide) hg, ⟨T, h2.kept hg (rows_apart h2 ho (by decide)), hT.grown ho (by decide) (by decide) hg⟩, hst.kept hg (rows_apart hst ho (by decide)), hen.kept hg (rows_apart hen ho (by decide))⟩
theorem Box.grownE {w w' : World} {B n b : Nat} {v : Value} {xs : List Value} {cs : Array Value} {t : TypeId} (h : Box w b cs t) (hne : 26 ≠ t) (ho : w.ownsRow B 26 2 v n xs) (hg : w.grownBy w' v.ownBlock) : Box w' b cs t := (hg.block b h.lt (own_ne ho h (Ne.symm hne))).trans h
structure KeepsE (B : Nat) (w w' : World) : Prop where
 eng : ∀ (B' : Nat) (cb : Option Addr) (cn cc : Nat) (v1 v2 v3 : Value) (e : Eng), EngOwn w B' cb cn cc v1 v2 v3 e → EngOwn w' B' cb cn cc v1 v2 v3 e
 box : ∀ (b : Nat) (cs : Array Value) (t : TypeId), 26 ≠ t → Box w b cs t → Box w' b cs t
 below : Below B w w'
def KeptTold (B : Nat) (w w' : World) (n : Nat) (L : List Ent) (x : Ending) : Prop := ∃ ab ac S, x = .returned (.slice ab n ac) ∧ EarlyOwn w' B ab n ac S L ∧ KeepsE B w w'
theorem kept_told {B n ac1 : Nat} {ab1 : Option Addr} {v6 : Value} {w w5 w6 : World} {S S5 : List ESlot} {L : List Ent} {e : Ent} (h : EarlyOwn w B ab1 n ac1 S L) (hB : B ≤ w.heap.size) (hb5 : Below w.heap.size w w5) (hs5 : ESlotsK w5 S5 [e])
   (h6 : w6.ownsRow B 26 2 v6 (n + 1) (flat eslotC S ++ flat eslotC S5)) (hg : w5.grownBy w6 (Value.slice ab1 n ac1).ownBlock) : KeptTold B w w6 (n + 1) (L ++ [e]) (.returned v6) := by
 obtain ⟨ab2, ac2, rfl, hl⟩ := Lies.owned h6
 have ho5 := owns_keep h.row hb5
 obtain ⟨s, rfl⟩ : ∃ s, S5 = [s] := by
   have := hs5.1
   match S5, this with
   | [s], _ => exact ⟨s, rfl⟩
 have hsk : ESlotK w5 s e := hs5.2 0 (Nat.lt_succ_self 0)
 refine ⟨ab2, ac2, S ++ [s], rfl, ⟨by rw [flat_append]; exact h6, ((h.slots.below hb5).grown ho5 hg).snoc (hsk.grown ho5 hg)⟩, ⟨fun B' cb cn cc v1 v2 v3 e he => (he.below hb5).grownE ho5 hg, fun b cs t hne hb => (hb.below hb5).grownE hne ho5 hg, ?_⟩⟩
 exact (below_lowerB hb5 hB).grown hg (Nat.le_trans hB hb5.size) (fun k hk => (ho5.lt k hk).1)

set_option maxHeartbeats 16000000 in
set_option maxRecDepth 100000 in
theorem keep_calls {ab : Option Addr} {B an ac : Nat} {S : List ESlot} {L : List Ent} {e : Ent} (ev : Value) (w : World) (h : EarlyOwn w B ab an ac S L) (hB : B ≤ w.heap.size) (hn : an ≤ 1000) (hev : EntV w ev e) (he : RightEnt e) :
   Calls Tryz.prog 21 #[.slice ab an ac, ev] w fun x w' => KeptTold B w w' (an + 1) (L ++ [e]) x := by
 obtain ⟨qb, qn, qc, rfl, hq⟩ := hev
 have HE := hid h
 have HX0 := hid (Box.new w #[.int .i64 e.1, .slice qb qn qc] 26)
 have HG0 := hid (grew w (.cells #[.int .i64 e.1, .slice qb qn qc] 26))
 have HQ := hid hq
 have HR := hid he
 have N : Hid ((an + 1) * 32 ≤ 140737488355328) := by show _ ≤ _; omega
 have HBB := hid hB
 clear h hq hB hn he
 go_enter Tryz.func21, Tryz.ntmps21
 go_upto_region 1 with fail
 generalize w.alloc (.cells #[.int .i64 e.1, .slice qb qn qc] 26) = A at *
 have HG1 := hid (grew A (.cells #[.int .i64 e.1, .slice qb qn qc] 26))
 have HBA := hid (below_deep HG0.out HG1.out)
 have HEN : Hid (EntsIn (A.alloc (.cells #[.int .i64 e.1, .slice qb qn qc] 26)) (some ⟨A.heap.size, 0, none⟩) 1 1 [e]) := by
   refine ⟨rfl, ⟨Nat.le_refl _, by unfold maxLen; omega, fun h => by cases h⟩, .inr ⟨_, _, rfl, fun i hi => ?_⟩⟩
   obtain rfl : i = 0 := by omega
   exact ⟨qb, qn, qc, box_cell _ _ _ 0 _ rfl, box_cell _ _ _ 1 _ rfl, HQ.out.below HBA.out⟩
 have PO := hid (logOwn_callsO [e] (some ⟨A.heap.size, 0, none⟩) 1 1 _ (by decide) (few_ents (fun x hx => by obtain rfl := List.mem_singleton.1 hx; exact HR.out)) HEN.out)
 have x0 := HX0.out.cell 0 _ rfl
 have x1 := HX0.out.cell 1 _ rfl
 have hl0 : w.heap.size < A.heap.size := HX0.out.lt
 go_wp2_with fail
 refine PO.out.mono ?_
 rintro _ w5 ⟨v5, S5, rfl, ho5, hs5, hb5⟩
 have HB5 := hid (below_deep HBA.out hb5)
 have HS5 := hid hs5
 obtain ⟨ab5, ac5, rfl, hl5⟩ := Lies.owned ho5
 have HL5 := hid hl5
 have O5 := hid (flatE_one S5)
 have HO5 := hid (owns_keep HE.out.row HB5.out)
 have SZ5 := hid (Nat.le_trans HBB.out HB5.out.size)
 clear ho5 hs5 hb5 hl5 PO x0 x1 hl0 HX0 HG0 HG1 HBA HEN HQ HR
 go_wp2_with (at_builtin; refine wpList_onto _ rfl _ _ 22 26 2 32 _ Tryz.underlying22 entInfoR rfl (by decide) (by decide) rfl B _ an (flat eslotC S) rfl HO5.out _ 1 _ _ rfl HL5.out O5.out N.out SZ5.out ?_)
 all_goals
   intro v6 w6 hown6 hg6
   have HT := hid (kept_told HE.out HBB.out HB5.out HS5.out hown6 hg6)
   clear hown6 hg6
   go_wp2
   go_ret
   exact HT.out
end Go.Proofs.YtlhaeeenkgkdaaaGreatDoor

namespace Go.Proofs.YtlhaeeenkgkdaaaGreatDoor
open Go.RowKit

theorem run_appendIn (w : World) (t ty e sz : Nat) (g n c : Nat) (cur : Array Value) (et : TypeId) (a : Addr) (m mc : Nat) (news : List Value)
   (hu : Tryz.prog.underlying t = some (.slice e)) (hs : (Tryz.prog.info? e).map (·.size) = some sz) (hg : w.heap[g]? = some (.cells cur et (0, 0)))
   (hl : news.length = m * sz) (hsrc : ∀ j v, news[j]? = some v → w.cell? (a.add j) = some v) (h1 : ∀ v ∈ news, v.oneCell' = true) (hroom : n + m ≤ c) (hfit : n * sz + news.length ≤ cur.size) :
   (Builtin.append_ #[t, t] ty #[.slice (some ⟨g, 0, none⟩) n c, .slice (some a) m mc]).run Tryz.prog w = .ok (.slice (some ⟨g, 0, none⟩) (n + m) c) (w.setRow g (cur.toList.take (n * sz) ++ news ++ cur.toList.drop (n * sz + news.length)).toArray) := by
 cases hq : Tryz.prog.info? e with
 | none => simp [hq] at hs
 | some i =>
   have hi : i.size = sz := by simpa [hq] using hs
   subst hi
   have hfc := run_firstCells_some (P := Tryz.prog) w i.size m a m mc news hl hsrc
   have hst := run_storeCells_at Tryz.prog g (n * i.size) et news 0 cur w hg (by simpa using hfit) h1
   simp only [Nat.add_zero] at hst
   simp [Builtin.append_, run_underlying hu, sizeOf, typeInfo, hq, Builtin.lenOf, hroom, hfc, Addr.add_lit, hst]
theorem step_appendIn (w : World) {ops : Array Oper} {o : Oper} {a : Act} {K : Act → World → Prop} {Q : Exit → Act → World → Prop} {E : Prop} (hgd : o.guard = none) (s x : Operand) (t e sz : Nat)
   (ho : o.op = .call { callee := .builtin .append, args := #[s, x], argTypes := #[t, t] }) (hu : Tryz.prog.underlying t = some (.slice e)) (hs : (Tryz.prog.info? e).map (·.size) = some sz)
   (g n c : Nat) (cur : Array Value) (et : TypeId) (ad : Addr) (m mc : Nat) (news : List Value) (hd : a.eval s = .slice (some ⟨g, 0, none⟩) n c) (hx : a.eval x = .slice (some ad) m mc)
   (hg : w.heap[g]? = some (.cells cur et (0, 0))) (hl : news.length = m * sz) (hsrc : ∀ j v, news[j]? = some v → w.cell? (ad.add j) = some v) (h1 : ∀ v ∈ news, v.oneCell' = true) (hroom : n + m ≤ c) (hfit : n * sz + news.length ≤ cur.size)
   (h : ∀ w', w'.heap[g]? = some (.cells (cur.toList.take (n * sz) ++ news ++ cur.toList.drop (n * sz + news.length)).toArray et (0, 0)) → w.grownBy w' (some g) → K (a.put o.dst (.slice (some ⟨g, 0, none⟩) (n + m) c)) w') :
   if Region.wanted o (yielded ops a.tmps) = true then Oper.wp Tryz.prog o a w K Q else E := by
 have hw : Region.wanted o (yielded ops a.tmps) = true := by simp [Region.wanted, hgd]
 rw [if_pos hw]
 have hrun := fun ty => run_appendIn w t ty e sz g n c cur et ad m mc news hu hs hg hl hsrc h1 hroom hfit
 unfold Oper.wp execOp
 simp only [ho, resolve, invoke, builtin, Sem.run_bind, Sem.run_pure, Result.andThen_ok, List.map_toArray, List.map_cons, List.map_nil, hd, hx, hrun]
 exact h _ (setRow_heap w g cur _ et _ hg) (grown_setRow _ _ _)
theorem run_clearIn (w : World) (t ty e : Nat) (z : Value) (Z : List Value) (g o c : Nat) (cur : Array Value) (et : TypeId)
   (hu : Tryz.prog.underlying t = some (.slice e)) (hz : ∀ w, (zeroValue e).run Tryz.prog w = .ok z w) (hZ : (Builtin.zeroCells z.cells 1).toList = Z) (hg : w.heap[g]? = some (.cells cur et (0, 0))) (h1 : ∀ v ∈ Z, v.oneCell' = true) (hfit : o + Z.length ≤ cur.size) :
   (Builtin.clear_ #[t] ty #[.slice (some ⟨g, o, none⟩) 1 c]).run Tryz.prog w = .ok (.tuple #[]) (w.setRow g (cur.toList.take o ++ Z ++ cur.toList.drop (o + Z.length)).toArray) := by
 have hst := run_storeCells_at Tryz.prog g o et Z 0 cur w hg (by simpa using hfit) h1
 simp only [Nat.add_zero] at hst
 simp [Builtin.clear_, run_underlying hu, hz, hZ, hst]
theorem del_list {X F Z : List Value} {i N s c : Nat} (hF : X.take ((N + 1) * s) = F) (hX : X.length = c * s) (hi : i ≤ N) (hc : N + 1 ≤ c) (hZ : Z.length = s) :
   ((X.take (i * s) ++ F.drop ((i + 1) * s) ++ X.drop (i * s + (F.drop ((i + 1) * s)).length)).take (N * s) ++ Z ++ (X.take (i * s) ++ F.drop ((i + 1) * s) ++ X.drop (i * s + (F.drop ((i + 1) * s)).length)).drop (N * s + Z.length)).take (N * s) = F.take (i * s) ++ F.drop ((i + 1) * s) ∧
   ((X.take (i * s) ++ F.drop ((i + 1) * s) ++ X.drop (i * s + (F.drop ((i + 1) * s)).length)).take (N * s) ++ Z ++ (X.take (i * s) ++ F.drop ((i + 1) * s) ++ X.drop (i * s + (F.drop ((i + 1) * s)).length)).drop (N * s + Z.length)).length = c * s ∧
   (X.take (i * s) ++ F.drop ((i + 1) * s) ++ X.drop (i * s + (F.drop ((i + 1) * s)).length)).length = c * s := by
 have h1 : (i + 1) * s ≤ (N + 1) * s := Nat.mul_le_mul_right _ (by omega)
 have h2 : (N + 1) * s ≤ c * s := Nat.mul_le_mul_right _ hc
 have e1 : (i + 1) * s = i * s + s := by rw [Nat.add_mul, Nat.one_mul]
 have e2 : (N + 1) * s = N * s + s := by rw [Nat.add_mul, Nat.one_mul]
 have hFl : F.length = (N + 1) * s := by rw [← hF, List.length_take]; omega
 have hta : X.take (i * s) = F.take (i * s) := by rw [← hF, List.take_take]; congr 1; omega
 have hlen : (X.take (i * s) ++ F.drop ((i + 1) * s) ++ X.drop (i * s + (F.drop ((i + 1) * s)).length)).length = c * s := by
   simp only [List.length_append, List.length_take, List.length_drop, hFl, hX]
   omega
 have hA : (X.take (i * s) ++ F.drop ((i + 1) * s)).length = N * s := by
   simp only [List.length_append, List.length_take, List.length_drop, hFl, hX]
   omega
 refine ⟨?_, ?_, hlen⟩
 · rw [List.append_assoc, List.take_append_of_le_length (by rw [List.length_take, hlen]; omega), List.take_take, Nat.min_self, List.take_append_of_le_length (by rw [hA]; exact Nat.le_refl _), ← hA, List.take_length, hta]
 · generalize (X.take (i * s) ++ F.drop ((i + 1) * s) ++ X.drop (i * s + (F.drop ((i + 1) * s)).length)) = Y at *
   simp only [List.length_append, List.length_take, List.length_drop, hZ, hlen]
   omega
abbrev zeroEnt : List Value := [.int .i64 0, .slice none 0 0]
theorem zeroEnt_one : ∀ v ∈ zeroEnt, v.oneCell' = true := fun v hv => by
 rcases List.mem_cons.1 hv with rfl | hv
 · rfl
 · obtain rfl := List.mem_singleton.1 hv; rfl
theorem entSize : (Tryz.prog.info? 26).map (·.size) = some 2 := by kernel_rfl
theorem zeroEntV (w : World) : (zeroValue 26).run Tryz.prog w = .ok (.agg #[.int .i64 0, .slice none 0 0]) w := by kernel_rfl
theorem zeroEntC : (Builtin.zeroCells (Value.agg #[.int .i64 0, .slice none 0 0]).cells 1).toList = zeroEnt := by kernel_rfl
theorem slice_both {t e sz : Nat} (hu : Tryz.prog.underlying t = some (.slice e)) (hz : ∀ w, (sizeOf e).run Tryz.prog w = .ok sz w) (base : Option Addr) (n c k m : Nat) (hk : k ≤ m) (hm : m ≤ c) (w : World) :
   (Instr.slice t (.slice base n c) (some (.int .i64 (k : Int))) (some (.int .i64 (m : Int))) none).run Tryz.prog w = .ok (.slice (cutB base c k sz) (m - k) (c - k)) w := by
 have h2 : ((k : Int)).toNat = k := Int.toNat_natCast k
 have h3 : ((m : Int)).toNat = m := Int.toNat_natCast m
 have hur : ∀ w, (underlying t).run Tryz.prog w = .ok (.slice e) w := fun w => by simp [underlying, go_sem, hu]
 simp [Instr.slice, Instr.sliceBounds, Instr.sliceBound, go_sem, hur, hz, hk, hm, cutB]

set_option maxHeartbeats 4000000 in
set_option maxRecDepth 100000 in
theorem delete_calls (S : List ESlot) (i N B : Nat) (v : Value) (w : World) (hi : i ≤ N) (ho : w.ownsRow B 26 2 v (N + 1) (flat eslotC S)) :
   Calls Tryz.prog 53 #[v, .int .i64 i, .int .i64 ((i : Int) + 1)] w fun e w2 => ∃ v2, e = .returned v2 ∧ w2.ownsRow B 26 2 v2 N (flat eslotC (S.take i ++ S.drop (i + 1))) ∧ w.grownBy w2 v.ownBlock := by
 have hlF := ho.1
 rcases ho.2 with ⟨_, h0⟩ | ⟨g, c, cur, rfl, hBg, hg, hnc, hcm, hcs, hF⟩
 · omega
 have HCM := hid hcm
 unfold maxLen at hcm
 have HG : Hid (w.drew.heap[g]? = some (.cells cur 26 (0, 0))) := hg
 obtain ⟨F, hFe⟩ : ∃ F, flat eslotC S = F := ⟨_, rfl⟩
 rw [hFe] at hF hlF
 have HD := hid (del_list (Z := zeroEnt) (s := 2) hF (by simpa using hcs) hi hnc rfl)
 have HFD : Hid (F.take (i * 2) ++ F.drop ((i + 1) * 2) = flat eslotC (S.take i ++ S.drop (i + 1))) := by
   show _ = _
   rw [flat_append, flat_take eslotC_length, flat_drop eslotC_length, hFe]
 have HONE : Hid (∀ u ∈ F.drop ((i + 1) * 2), u.oneCell' = true) := fun u hu => by
   have := List.mem_of_mem_drop hu
   rw [← hFe] at this
   obtain ⟨s, _, h⟩ := List.mem_flatMap.1 this
   exact eslotC_one s u h
 have hdl : (F.drop ((i + 1) * 2)).length = (N - i) * 2 := by rw [List.length_drop, hlF]; omega
 have HDL := hid hdl
 have HBG := hid hBg
 have HFIT : Hid (i * 2 + (F.drop ((i + 1) * 2)).length ≤ cur.size) := by show _ ≤ _; rw [hdl, hcs]; omega
 have HROOM : Hid (i + (N - i) ≤ c) := by show _ ≤ _; omega
 have HFL : Hid ((F.take (i * 2) ++ F.drop ((i + 1) * 2)).length = N * 2) := by show _ = _; rw [List.length_append, List.length_take, hdl, hlF]; omega
 obtain ⟨ad, had, hsrc⟩ : ∃ ad : Addr, cutB (some ⟨g, 0, none⟩) c (i + 1) 2 = some ad ∧ ∀ j u, (F.drop ((i + 1) * 2))[j]? = some u → w.drew.cell? (ad.add j) = some u := by
   by_cases h : c = i + 1
   · refine ⟨⟨g, 0, none⟩, by unfold cutB; rw [if_pos h], fun j u hu => ?_⟩
     have := (List.getElem?_eq_some_iff.1 hu).1
     rw [hdl] at this
     omega
   · refine ⟨⟨g, (i + 1) * 2, none⟩, by unfold cutB; rw [if_neg h]; simp [Addr.add_lit], fun j u hu => ?_⟩
     rw [Addr.add_lit]
     rw [List.getElem?_drop, ← hF] at hu
     have h2 : cur.toList[(i + 1) * 2 + j]? = some u := by
       by_cases hj : (i + 1) * 2 + j < (N + 1) * 2
       · rw [List.getElem?_take_of_lt hj] at hu; exact hu
       · rw [List.getElem?_eq_none (by rw [List.length_take]; omega)] at hu; cases hu
     show w.cell? _ = some u
     simp only [World.cell?, hg, Option.isSome_none, Bool.false_eq_true, if_false]
     simpa using h2
 have HSRC := hid hsrc
 have hne : ((i : Int) == (i : Int) + 1) = false := by simp; omega
 have hic : i ≤ c := by omega
 have hjc : i + 1 ≤ c := by omega
 have hNc : N ≤ c := by omega
 have hNc1 : N + 1 ≤ c := by omega
 have hi2 : (i : Int) ≤ (N : Int) := by omega
 have hs1 := slice_head (t := 22) Tryz.underlying22 Tryz.sizeOf26 (some ⟨g, 0, none⟩) (N + 1) c i hic
 have hs2 : ∀ w, (Instr.slice 22 (.slice (some ⟨g, 0, none⟩) (N + 1) c) (some (.int .i64 ((i : Int) + 1))) none none).run Tryz.prog w = .ok (.slice (some ad) (N - i) (c - (i + 1))) w := fun w => by
   have h := slice_run (t := 22) Tryz.underlying22 Tryz.sizeOf26 (some ⟨g, 0, none⟩) (N + 1) c (i + 1) (by omega) w
   rw [show ((i + 1 : Nat) : Int) = (i : Int) + 1 from by omega, had, show N + 1 - (i + 1) = N - i from by omega] at h
   exact h
 have hs3 : ∀ w, (Instr.slice 22 (.slice (some ⟨g, 0, none⟩) N c) (some (.int .i64 (N : Int))) (some (.int .i64 ((N : Int) + 1))) none).run Tryz.prog w = .ok (.slice (some ⟨g, N * 2, none⟩) 1 (c - N)) w := fun w => by
   have h := slice_both (t := 22) Tryz.underlying22 Tryz.sizeOf26 (some ⟨g, 0, none⟩) N c N (N + 1) (Nat.le_succ _) hNc1 w
   rw [show ((N + 1 : Nat) : Int) = (N : Int) + 1 from by omega, show N + 1 - N = 1 from by omega] at h
   rw [h]
   unfold cutB
   rw [if_neg (by omega)]
   simp [Addr.add_lit]
 have hc0 : cutB (some ⟨g, 0, none⟩) c 0 2 = some ⟨g, 0, none⟩ := by unfold cutB; split <;> simp [Addr.add_lit]
 rw [hc0] at hs1
 have HN : Hid (i + (N - i) = N) := by show _ = _; omega
 clear hsrc hF hFe hlF hcs hBg hg ho hdl hc0 had
 go_enter Tryz.func53, Tryz.ntmps53
 go_wp2_with fail
 go_region_law (refine step_appendIn w.drew rfl _ _ 22 26 2 rfl Tryz.underlying22 entSize g i c cur 26 ad (N - i) (c - (i + 1)) (F.drop ((i + 1) * 2)) rfl rfl HG.out HDL.out HSRC.out HONE.out HROOM.out HFIT.out ?_; intro w1 hg1 hgr1; rw [HN.out])
 obtain ⟨w2, hcl, hg2, hgr2⟩ : ∃ w2, (∀ ty, (Builtin.clear_ #[22] ty #[.slice (some ⟨g, N * 2, none⟩) 1 (c - N)]).run Tryz.prog w1 = .ok (.tuple #[]) w2) ∧ w2.heap[g]? = some (.cells ((cur.toList.take (i * 2) ++ F.drop ((i + 1) * 2) ++ cur.toList.drop (i * 2 + (F.drop ((i + 1) * 2)).length)).take (N * 2) ++ zeroEnt ++ (cur.toList.take (i * 2) ++ F.drop ((i + 1) * 2) ++ cur.toList.drop (i * 2 + (F.drop ((i + 1) * 2)).length)).drop (N * 2 + zeroEnt.length)).toArray 26 (0, 0)) ∧ w1.grownBy w2 (some g) := by
   refine ⟨_, fun ty => run_clearIn w1 22 ty 26 (.agg #[.int .i64 0, .slice none 0 0]) zeroEnt g (N * 2) (c - N) _ 26 Tryz.underlying22 zeroEntV zeroEntC hg1 zeroEnt_one ?_, setRow_heap w1 g _ _ _ _ hg1, grown_setRow _ _ _⟩
   have h := HD.out.2.2
   simp only [List.size_toArray]
   rw [h]
   show N * 2 + 2 ≤ c * 2
   omega
 have HOW : Hid (w2.ownsRow B 26 2 (.slice (some ⟨g, 0, none⟩) N c) N (flat eslotC (S.take i ++ S.drop (i + 1)))) := by
   refine ⟨?_, .inr ⟨g, c, _, rfl, HBG.out, hg2, hNc, HCM.out, ?_, ?_⟩⟩
   · rw [← HFD.out]; exact HFL.out
   · have h := HD.out.2.1
     simp only [List.size_toArray]
     exact h
   · have h := HD.out.1
     rw [← HFD.out]
     exact h
 have HGW : Hid (w.grownBy w2 (some g)) := by
   have h1 : w.grownBy w1 (some g) := ⟨hgr1.os, hgr1.tape, hgr1.output, hgr1.size, hgr1.block⟩
   exact grown_trans h1 hgr2
 clear hg2 hgr2 hg1 hgr1
 go_wp2
 go_ret
 exact ⟨_, rfl, HOW.out, HGW.out⟩
end Go.Proofs.YtlhaeeenkgkdaaaGreatDoor
