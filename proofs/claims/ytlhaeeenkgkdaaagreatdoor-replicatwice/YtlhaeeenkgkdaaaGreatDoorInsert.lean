/-
  slices.Insert over chains, of one chain, into a row that the call owns: the row with the chain at its place; what else there is stays.
-/
import Derived.Test.YtlhaeeenkgkdaaaGreatDoorEngGood
import Derived.Lib.AppendZerosOnto
import Derived.Lib.Overlaps
import Derived.Laws.IdiomCopy
import Derived.Deep.RegionLaw
import Derived.Stop.Walk2
namespace Go.Proofs.YtlhaeeenkgkdaaaGreatDoor
open Go.RowKit

theorem run_copyN (w : World) (dT ty elem sz : Nat) (g o dLen dCap : Nat) (a : Addr) (sLen sCap m : Nat) (cur : Array Value) (t : TypeId) (cs : List Value)
   (hu : Tryz.prog.underlying dT = some (.slice elem)) (hs : (Tryz.prog.info? elem).map (·.size) = some sz)
   (hg : w.heap[g]? = some (.cells cur t (0, 0))) (hm : Nat.min sLen dLen = m) (hn : cs.length = m * sz)
   (hsrc : ∀ j v, cs[j]? = some v → w.cell? (a.add j) = some v) (hfit : o + cs.length ≤ cur.size) (h1 : ∀ v ∈ cs, v.oneCell' = true) :
   (Builtin.copy_ #[dT, dT] ty #[.slice (some ⟨g, o, none⟩) dLen dCap, .slice (some a) sLen sCap]).run Tryz.prog w =
     .ok (goInt m) (w.setRow g (cur.toList.take o ++ cs ++ cur.toList.drop (o + cs.length)).toArray) := by
 have hst := run_storeCells_at Tryz.prog g o t cs 0 cur w hg (by simpa using hfit) h1
 simp only [Nat.add_zero] at hst
 cases hq : Tryz.prog.info? elem with
 | none => simp [hq] at hs
 | some i =>
   have hi : i.size = sz := by simpa [hq] using hs
   have hf := run_firstCells_some (P := Tryz.prog) w sz m a sLen sCap cs hn hsrc
   simp [Builtin.copy_, run_underlying hu, Builtin.lenOf, sizeOf, typeInfo, hq, hi, hm, hf, hst]
theorem grown_setRow (w : World) (g : Nat) (cs : Array Value) : w.grownBy (w.setRow g cs) (some g) := ⟨rfl, rfl, rfl, by simp, fun k _ hk => setRow_other w g k _ (fun e => hk (by rw [e]))⟩
theorem run_copyX (w : World) (dT ty elem sz : Nat) (g o dLen dCap : Nat) (a : Addr) (sLen sCap m : Nat) (cur : Array Value) (t : TypeId) (cs : List Value)
   (hu : Tryz.prog.underlying dT = some (.slice elem)) (hs : (Tryz.prog.info? elem).map (·.size) = some sz)
   (hg : w.heap[g]? = some (.cells cur t (0, 0))) (hm : Nat.min sLen dLen = m) (hn : cs.length = m * sz)
   (hsrc : ∀ j v, cs[j]? = some v → w.cell? (a.add j) = some v) (hfit : o + cs.length ≤ cur.size) (h1 : ∀ v ∈ cs, v.oneCell' = true) :
   ∃ w', (Builtin.copy_ #[dT, dT] ty #[.slice (some ⟨g, o, none⟩) dLen dCap, .slice (some a) sLen sCap]).run Tryz.prog w = .ok (goInt m) w' ∧
     w'.heap[g]? = some (.cells (cur.toList.take o ++ cs ++ cur.toList.drop (o + cs.length)).toArray t (0, 0)) ∧ w.grownBy w' (some g) :=
 ⟨_, run_copyN w dT ty elem sz g o dLen dCap a sLen sCap m cur t cs hu hs hg hm hn hsrc hfit h1, setRow_heap w g cur _ t _ hg, grown_setRow _ _ _⟩
theorem step_copyN (w : World) {ops : Array Oper} {o : Oper} {a : Act} {K : Act → World → Prop} {Q : Exit → Act → World → Prop} {E : Prop} (hgd : o.guard = none) (d s : Operand) (dT elem sz : Nat)
   (ho : o.op = .call { callee := .builtin .copy, args := #[d, s], argTypes := #[dT, dT] }) (hu : Tryz.prog.underlying dT = some (.slice elem)) (hs : (Tryz.prog.info? elem).map (·.size) = some sz)
   (g off dLen dCap : Nat) (ad : Addr) (sLen sCap m : Nat) (cur : Array Value) (t : TypeId) (cs : List Value) (hd : a.eval d = .slice (some ⟨g, off, none⟩) dLen dCap) (hx : a.eval s = .slice (some ad) sLen sCap)
   (hg : w.heap[g]? = some (.cells cur t (0, 0))) (hm : Nat.min sLen dLen = m) (hn : cs.length = m * sz) (hsrc : ∀ j v, cs[j]? = some v → w.cell? (ad.add j) = some v) (hfit : off + cs.length ≤ cur.size) (h1 : ∀ v ∈ cs, v.oneCell' = true)
   (h : ∀ w', w'.heap[g]? = some (.cells (cur.toList.take off ++ cs ++ cur.toList.drop (off + cs.length)).toArray t (0, 0)) → w.grownBy w' (some g) → K (a.put o.dst (goInt m)) w') :
   if Region.wanted o (yielded ops a.tmps) = true then Oper.wp Tryz.prog o a w K Q else E := by
 have hw : Region.wanted o (yielded ops a.tmps) = true := by simp [Region.wanted, hgd]
 rw [if_pos hw]
 have hrun := fun ty => run_copyN w dT ty elem sz g off dLen dCap ad sLen sCap m cur t cs hu hs hg hm hn hsrc hfit h1
 unfold Oper.wp execOp
 simp only [ho, resolve, invoke, builtin, Sem.run_bind, Sem.run_pure, Result.andThen_ok, List.map_toArray, List.map_cons, List.map_nil, hd, hx, hrun]
 exact h _ (setRow_heap w g cur _ t _ hg) (grown_setRow _ _ _)

theorem flat_take {α : Type} {f : α → List Value} {k : Nat} (hk : ∀ x, (f x).length = k) : ∀ (l : List α) (i : Nat), flat f (l.take i) = (flat f l).take (i * k)
 | [], i => by simp [flat]
 | x :: l, 0 => by simp [flat]
 | x :: l, i + 1 => by
   have e : (i + 1) * k = (f x).length + i * k := by rw [hk, Nat.add_mul, Nat.one_mul, Nat.add_comm]
   rw [List.take_succ_cons, flat_cons, flat_cons, flat_take hk l i, e, List.take_length_add_append]
theorem flat_drop {α : Type} {f : α → List Value} {k : Nat} (hk : ∀ x, (f x).length = k) : ∀ (l : List α) (i : Nat), flat f (l.drop i) = (flat f l).drop (i * k)
 | [], i => by simp [flat]
 | x :: l, 0 => by simp
 | x :: l, i + 1 => by
   have e : (i + 1) * k = (f x).length + i * k := by rw [hk, Nat.add_mul, Nat.one_mul, Nat.add_comm]
   rw [List.drop_succ_cons, flat_cons, flat_drop hk l i, e, List.drop_length_add_append]
theorem shift_list {X F E : List Value} {i n s cap : Nat} (hF : X.take (n * s) = F) (hX : X.length = cap * s) (hi : i ≤ n) (hc : n + 1 ≤ cap) (hE : E.length = s) :
   (((X.take ((i + 1) * s) ++ F.drop (i * s) ++ X.drop ((i + 1) * s + (F.drop (i * s)).length)).take (i * s) ++ E ++ (X.take ((i + 1) * s) ++ F.drop (i * s) ++ X.drop ((i + 1) * s + (F.drop (i * s)).length)).drop (i * s + E.length))).take ((n + 1) * s) = F.take (i * s) ++ E ++ F.drop (i * s) := by
 have h1 : i * s ≤ n * s := Nat.mul_le_mul_right _ hi
 have h2 : (n + 1) * s ≤ cap * s := Nat.mul_le_mul_right _ hc
 have e1 : (i + 1) * s = i * s + s := by rw [Nat.add_mul, Nat.one_mul]
 have e2 : (n + 1) * s = n * s + s := by rw [Nat.add_mul, Nat.one_mul]
 have hFl : F.length = n * s := by rw [← hF, List.length_take]; omega
 have hta : (X.take ((i + 1) * s)).length = i * s + s := by rw [List.length_take]; omega
 have hd1 : (X.take ((i + 1) * s) ++ F.drop (i * s) ++ X.drop ((i + 1) * s + (F.drop (i * s)).length)).take (i * s) = F.take (i * s) := by
   rw [List.append_assoc, List.take_append_of_le_length (by rw [hta]; omega), List.take_take, ← hF, List.take_take]
   congr 1
   omega
 have hd2 : (X.take ((i + 1) * s) ++ F.drop (i * s) ++ X.drop ((i + 1) * s + (F.drop (i * s)).length)).drop (i * s + E.length) = F.drop (i * s) ++ X.drop ((i + 1) * s + (F.drop (i * s)).length) := by
   rw [hE, List.append_assoc, ← hta, List.drop_left]
 rw [hd1, hd2, ← List.append_assoc]
 rw [List.take_append_of_le_length]
 · rw [List.take_of_length_le]
   simp only [List.length_append, List.length_take, List.length_drop, hE, hFl]
   omega
 · simp only [List.length_append, List.length_take, List.length_drop, hE, hFl]
   omega
theorem grow_list {R F E : List Value} {i n s : Nat} (hR : R.take (i * s) = F.take (i * s)) (hFl : F.length = n * s) (hi : i ≤ n) (hE : E.length = s) :
   (((R.take (i * s) ++ E ++ R.drop (i * s + E.length)).take ((i + 1) * s) ++ F.drop (i * s) ++ (R.take (i * s) ++ E ++ R.drop (i * s + E.length)).drop ((i + 1) * s + (F.drop (i * s)).length))).take ((n + 1) * s) = F.take (i * s) ++ E ++ F.drop (i * s) := by
 have h1 : i * s ≤ n * s := Nat.mul_le_mul_right _ hi
 have e1 : (i + 1) * s = i * s + s := by rw [Nat.add_mul, Nat.one_mul]
 have e2 : (n + 1) * s = n * s + s := by rw [Nat.add_mul, Nat.one_mul]
 have hft : (F.take (i * s)).length = i * s := by rw [List.length_take]; omega
 have hd1 : (R.take (i * s) ++ E ++ R.drop (i * s + E.length)).take ((i + 1) * s) = F.take (i * s) ++ E := by
   rw [hR, List.take_append_of_le_length (by rw [List.length_append, hft, hE]; omega), List.take_of_length_le]
   rw [List.length_append, hft, hE]; omega
 rw [hd1]
 rw [List.take_append_of_le_length]
 · rw [List.take_of_length_le]
   simp only [List.length_append, List.length_take, List.length_drop, hE, hFl]
   omega
 · simp only [List.length_append, List.length_take, List.length_drop, hE, hFl]
   omega
theorem chnSize : (Tryz.prog.info? 115).map (·.size) = some 2 := by kernel_rfl
theorem chnSizeOf (w : World) : (Go.sizeOf 115).run Tryz.prog w = .ok 2 w := by kernel_rfl
def Inserted (W w2 : World) (B n i : Nat) (v v2 : Value) (S : List Slot) (s : Slot) : Prop := w2.ownsRow B 115 2 v2 (n + 1) (flat slotC (S.take i ++ s :: S.drop i)) ∧ W.grownBy w2 v.ownBlock

set_option maxHeartbeats 4000000 in
set_option maxRecDepth 100000 in
theorem insert_end (S : List Slot) (s : Slot) (n B : Nat) (v : Value) (w : World) (hn : (n + 1) * 40 ≤ 140737488355328) (hB : B ≤ w.heap.size) (ho : w.ownsRow B 115 2 v n (flat slotC S)) :
   Calls Tryz.prog 125 #[v, .int .i64 n, .slice (some ⟨w.heap.size, 0, none⟩) 1 1] (w.alloc (.cells #[.string s.1, .slice s.2.1 s.2.2.1 s.2.2.2] 115)) fun e w2 =>
     ∃ v2, e = .returned v2 ∧ Inserted (w.alloc (.cells #[.string s.1, .slice s.2.1 s.2.2.1 s.2.2.2] 115)) w2 B n n v v2 S s := by
 obtain ⟨vb, vc, hve, hl⟩ := Lies.owned ho
 have hcm := hl.hdr.max
 have hlc := hl.hdr.le
 have hnil := hl.hdr.nil
 unfold maxLen at hcm
 have HW := hid (lies_one w #[.string s.1, .slice s.2.1 s.2.2.1 s.2.2.2] 115 2 rfl)
 have HO := hid (ho.alloc (.cells #[.string s.1, .slice s.2.1 s.2.2.1 s.2.2.2] 115))
 have HB := hid (le_box (o := .cells #[.string s.1, .slice s.2.1 s.2.2.1 s.2.2.2] 115) hB)
 have HE := hid (slotC_one s)
 have hnS : S.length = n := by have := ho.1; rw [flat_length slotC_length] at this; omega
 have HF : Hid (flat slotC S ++ [.string s.1, .slice s.2.1 s.2.2.1 s.2.2.2] = flat slotC (S.take n ++ s :: S.drop n)) := by
   show _ = _
   rw [List.take_of_length_le (by omega), List.drop_eq_nil_of_le (by omega), flat_snoc]; rfl
 have HN := hid hn
 subst hve
 clear hl ho hn hnS
 have t : ((n : Int) == (n : Int)) = true := by simp
 cases vb with
 | none =>
   obtain rfl := hnil rfl
   obtain rfl : n = 0 := by omega
   go_enter Tryz.func125, Tryz.ntmps125
   go_wp2_with (at_builtin; refine wpList_onto _ rfl _ _ 30 115 2 40 _ Tryz.underlying30 chnInfo rfl (by decide) (by decide) rfl B _ _ _ rfl HO.out _ 1 _ _ rfl HW.out HE.out HN.out HB.out ?_)
   intro v2 w2 h1 h2
   rw [HF.out] at h1
   have H1 := hid (And.intro h1 h2)
   clear h1 h2
   go_wp2
   go_ret
   exact ⟨_, rfl, H1.out⟩
 | some a =>
   go_enter Tryz.func125, Tryz.ntmps125
   go_wp2_with (at_builtin; refine wpList_onto _ rfl _ _ 30 115 2 40 _ Tryz.underlying30 chnInfo rfl (by decide) (by decide) rfl B _ _ _ rfl HO.out _ 1 _ _ rfl HW.out HE.out HN.out HB.out ?_)
   all_goals
     intro v2 w2 h1 h2
     rw [HF.out] at h1
     have H1 := hid (And.intro h1 h2)
     clear h1 h2
     go_wp2
     go_ret
     exact ⟨_, rfl, H1.out⟩

theorem shape_block {w : World} {g : Nat} {cur : Array Value} {t : TypeId} {fr : Nat × Nat} (h : w.heap[g]? = some (.cells cur t fr)) : w.shape? g = some (t, cur.size) := by simp [World.shape?, h]
theorem cell_block {w : World} {g j : Nat} {cur : Array Value} {t : TypeId} {fr : Nat × Nat} (h : w.heap[g]? = some (.cells cur t fr)) {u : Value} (hu : cur[j]? = some u) : w.cell? ⟨g, j, none⟩ = some u := by simp [World.cell?, h, hu]

set_option maxHeartbeats 4000000 in
set_option maxRecDepth 100000 in
theorem insert_room (S : List Slot) (s : Slot) (i n B c g : Nat) (cur : Array Value) (w : World) (hi : i < n) (hc : n + 1 ≤ c) (hcm : c ≤ maxLen) (hB : B ≤ g) (hg : w.heap[g]? = some (.cells cur 115 (0, 0))) (hcs : cur.size = c * 2) (hF : cur.toList.take (n * 2) = flat slotC S) :
   Calls Tryz.prog 125 #[.slice (some ⟨g, 0, none⟩) n c, .int .i64 i, .slice (some ⟨w.heap.size, 0, none⟩) 1 1] (w.alloc (.cells #[.string s.1, .slice s.2.1 s.2.2.1 s.2.2.2] 115)) fun e w2 =>
     ∃ v2, e = .returned v2 ∧ Inserted (w.alloc (.cells #[.string s.1, .slice s.2.1 s.2.2.1 s.2.2.2] 115)) w2 B n i (.slice (some ⟨g, 0, none⟩) n c) v2 S s := by
 have HCM := hid hcm
 unfold maxLen at hcm
 have hgw : g < w.heap.size := (Array.getElem?_eq_some_iff.1 hg).1
 obtain ⟨A, hA⟩ : ∃ A, A = w.alloc (.cells #[.string s.1, .slice s.2.1 s.2.2.1 s.2.2.2] 115) := ⟨_, rfl⟩
 have hgA : A.heap[g]? = some (.cells cur 115 (0, 0)) := by rw [hA, Below.heap_alloc w _ g hgw]; exact hg
 have hov : ∀ lb cb, (callFunc 146 #[.slice (some ⟨w.heap.size, 0, none⟩) 1 1, .slice (some ⟨g, (i + 1) * 2, none⟩) lb cb]).run Tryz.prog A = .ok (.value (.bool false)) A := fun lb cb => by
   rw [run_callFunc_extern Tryz.func146 (by kernel_rfl) (by kernel_rfl) (by kernel_rfl) (e := Extern.SlicesOverlaps.overlaps #[30, 30] #[4]) (by kernel_rfl),
     Lib.run_overlaps_apart A 30 4 115 Tryz.underlying30 2 chnSizeOf ⟨w.heap.size, 0, none⟩ ⟨g, (i + 1) * 2, none⟩ 1 1 lb cb (by simp; omega) 115 115 2 cur.size
       (by rw [hA]; exact World.shape?_alloc_at _ _ _ rfl) (shape_block hgA) (by omega) (by rw [hA]; exact World.frozen?_alloc_at _ _ _ _ rfl) (by rw [hA]; exact World.frozen?_alloc_at _ _ _ _ rfl)]
   rfl
 have hz2 : ¬ ((i : Int) = (n : Int)) := by omega
 have hw1 : IntKind.i64.wrap ((i : Int) + 1) = (i : Int) + 1 := by rw [IntKind.wrap_i64]; omega
 have hin : i ≤ n := by omega
 have hb1 : (0 : Int) ≤ (i : Int) + 1 := by omega
 have htn : ((i : Int) + 1).toNat = i + 1 := by omega
 have hb2 : ¬ (c = i + 1) := by omega
 have hb3 : (i : Int) ≤ (n : Int) + 1 := by omega
 have hb4 : ¬ (c = i) := by omega
 have hb5 : (i : Int) + 1 ≤ (n : Int) + 1 := by omega
 obtain ⟨F, hFe⟩ : ∃ F, F = flat slotC S := ⟨_, rfl⟩
 have hFl : F.length = n * 2 := by rw [hFe, ← hF, List.length_take, Array.length_toList]; omega
 have h1c : ∀ u ∈ F, u.oneCell' = true := by rw [hFe]; exact flatS_one S
 rw [← hFe] at hF
 have hFat : ∀ j u, F[j]? = some u → cur[j]? = some u := fun j u hu => by
   rw [← hF, List.getElem?_take] at hu
   split at hu
   · simpa using hu
   · cases hu
 have M1 : Hid (Nat.min (n + 1 - i) (n - i) = n - i) := by show _ = _; simp only [Nat.min_def]; split <;> omega
 have N1 : Hid ((F.drop (i * 2)).length = (n - i) * 2) := by show _ = _; rw [List.length_drop, hFl]; omega
 have S1 : Hid (∀ j u, (F.drop (i * 2))[j]? = some u → A.drew.cell? ((⟨g, i * 2, none⟩ : Addr).add j) = some u) := fun j u hu => by
   rw [Addr.add_lit]
   rw [List.getElem?_drop] at hu
   exact cell_block (w := A.drew) hgA (hFat _ _ hu)
 have T1 : Hid ((i + 1) * 2 + (F.drop (i * 2)).length ≤ cur.size) := by show _ ≤ _; rw [N1.out, hcs]; omega
 have O1 : Hid (∀ u ∈ F.drop (i * 2), u.oneCell' = true) := fun u hu => h1c u (List.mem_of_mem_drop hu)
 have HSH := hid (shift_list (E := [.string s.1, .slice s.2.1 s.2.2.1 s.2.2.2]) hF (by rw [Array.length_toList, hcs]) hin hc rfl)
 have HFE := hid (show F = flat slotC S from hFe)
 have HFL := hid hFl
 have HG := hid hgA
 have HV := hid hov
 have HCS := hid hcs
 have S2 : Hid (∀ j u, ([.string s.1, .slice s.2.1 s.2.2.1 s.2.2.2] : List Value)[j]? = some u → A.cell? ((⟨w.heap.size, 0, none⟩ : Addr).add j) = some u) := fun j u hu => by
   rw [Addr.add_lit, Nat.zero_add, hA]
   exact box_cell _ _ _ _ _ (by simpa using hu)
 have hgne : some w.heap.size ≠ some g := fun e => by cases e; omega
 clear hgA hov hFe hFl h1c hF hFat hcs hg
 have HA : Hid (A = w.alloc (.cells #[.string s.1, .slice s.2.1 s.2.2.1 s.2.2.2] 115)) := hA
 subst hA
 go_enter Tryz.func125, Tryz.ntmps125
 go_wp2_with fail
 rw [HV.out]
 go_wp2
 go_region_law ((refine step_copyN _ rfl _ _ 30 115 2 rfl Tryz.underlying30 chnSize g ((i + 1) * 2) (n - i) (c - (i + 1)) ⟨g, i * 2, none⟩ (n + 1 - i) (c - i) (n - i) cur 115 (F.drop (i * 2)) (by simp [Act.eval, Act.put]) (by simp [Act.eval, Act.put]) HG.out M1.out N1.out S1.out T1.out O1.out ?_; intro w1 hg1 hgr1))
 have HG1 := hid hg1
 have HGR1 := hid hgr1
 have M2 : Hid (Nat.min 1 (n + 1 - i) = 1) := by show _ = _; simp only [Nat.min_def]; split <;> omega
 have S3 : Hid (∀ j u, ([.string s.1, .slice s.2.1 s.2.2.1 s.2.2.2] : List Value)[j]? = some u → w1.cell? ((⟨w.heap.size, 0, none⟩ : Addr).add j) = some u) := fun j u hu => by
   have := S2.out j u hu
   rw [Addr.add_lit] at this ⊢
   exact HGR1.out.cell this hgne
 have L1 : Hid ((cur.toList.take ((i + 1) * 2) ++ F.drop (i * 2) ++ cur.toList.drop ((i + 1) * 2 + (F.drop (i * 2)).length)).toArray.size = c * 2) := by
   show _ = _
   have h1 := N1.out
   have h2 := HCS.out
   simp only [List.size_toArray, List.length_append, List.length_take, List.length_drop, Array.length_toList] at h1 ⊢
   omega
 have T2 : Hid (i * 2 + ([.string s.1, .slice s.2.1 s.2.2.1 s.2.2.2] : List Value).length ≤ (cur.toList.take ((i + 1) * 2) ++ F.drop (i * 2) ++ cur.toList.drop ((i + 1) * 2 + (F.drop (i * 2)).length)).toArray.size) := by
   show _ ≤ _
   rw [L1.out]; simp only [List.length_cons, List.length_nil]; omega
 have O2 := hid (slotC_one s)
 clear hg1 hgr1
 obtain ⟨w2, r2, hg2, hgr2⟩ := run_copyX w1 30 3 115 2 g (i * 2) (n + 1 - i) (c - i) ⟨w.heap.size, 0, none⟩ 1 1 1 _ 115 [.string s.1, .slice s.2.1 s.2.2.1 s.2.2.2] Tryz.underlying30 chnSize HG1.out M2.out rfl S3.out T2.out O2.out
 have R2 := hid r2
 have HG2 := hid hg2
 have HGR2 := hid hgr2
 clear r2 hg2 hgr2
 have HIN : Hid (Inserted (w.alloc (.cells #[.string s.1, .slice s.2.1 s.2.2.1 s.2.2.2] 115)) w2 B n i (.slice (some ⟨g, 0, none⟩) n c) (.slice (some ⟨g, 0, none⟩) (n + 1) c) S s) := by
   refine ⟨⟨?_, .inr ⟨g, c, _, rfl, hB, HG2.out, hc, HCM.out, ?_, ?_⟩⟩, ?_⟩
   · rw [flat_append, flat_cons, flat_take slotC_length, flat_drop slotC_length, ← HFE.out]
     simp only [List.length_append, List.length_take, List.length_drop, HFL.out, slotC_length]
     omega
   · have h1 := L1.out
     simp only [List.size_toArray] at h1
     simp only [List.size_toArray, List.length_append, List.length_take, List.length_drop, List.length_cons, List.length_nil] at h1 ⊢
     omega
   · have h1 := HSH.out
     rw [flat_append, flat_cons, flat_take slotC_length, flat_drop slotC_length, ← HFE.out, ← List.append_assoc]
     exact h1
   · have h1 := HGR1.out
     have h2 := HGR2.out
     exact ⟨h2.os.trans h1.os, h2.tape.trans h1.tape, h2.output.trans h1.output, Nat.le_trans h1.size h2.size, fun k hk hne => (h2.block k (Nat.lt_of_lt_of_le hk h1.size) hne).trans (h1.block k hk hne)⟩
 go_wp2
 rw [R2.out]
 go_wp2
 go_ret
 exact ⟨_, rfl, HIN.out⟩

theorem wpList_zeros (w : World) {ops : Array Oper} {rest : List Oper} {o : Oper} {a : Act} {Q : Exit → Act → World → Prop} (hgd : o.guard = none) (s x : Operand) (t tn e sz bytes : Nat) (z : Value)
   (hu : Tryz.prog.underlying t = some (.slice e)) (hun : Tryz.prog.underlying tn = some (.int .i64)) (hinfo : (Tryz.prog.info? e).map (fun i => (i.zero, i.size, i.bytes)) = some (some z, sz, bytes)) (hsz : 0 < sz)
   (ho : o.op = .call { callee := .builtin .append, args := #[s, x], argTypes := #[t, tn] }) (base : Option Addr) (i c k : Nat) (K : Int) (hs : a.eval s = .slice base i c) (hx : a.eval x = .int .i64 K) (hK : K = (k : Int))
   (olds : List Value) (hold : (Builtin.firstCells sz i (.slice base i c)).run Tryz.prog w.drew = .ok olds.toArray w.drew) (h0 : 0 < k) (hc : c < i + k) (hby : 0 < bytes) (hb : (i + k) * bytes ≤ 140737488355328)
   (h : ∀ w' G ROW, w'.heap[w.heap.size]? = some (.cells (olds ++ ROW).toArray e (0, 0)) → ROW.length = (G - i) * z.cells.size → i + k ≤ G → G ≤ maxLen → w.grownBy w' none → wpList Tryz.prog ops Q rest (a.put o.dst (.slice (some ⟨w.heap.size, 0, none⟩) (i + k) G)) w') : wpList Tryz.prog ops Q (o :: rest) a w := by
 obtain ⟨i0, hi, hz0, hz1, hz2⟩ := info_parts hinfo
 subst hz1
 subst hz2
 have hik : i + k ≤ 140737488355328 := Nat.le_trans (Nat.le_mul_of_pos_right _ hby) hb
 have hkb : k * i0.bytes ≤ (i + k) * i0.bytes := Nat.mul_le_mul_right _ (by omega)
 have hrun := Lib.run_append_grow_zeros (P := Tryz.prog) w t tn o.type e i0 z .i64 .i64 hu hun hi hz0 base i c olds hold k h0 hsz hc (by omega) (by omega) (growslice_fits hc hb)
 subst hK
 have hG := grownCap_ge w (i + k) c e
 have hM := grownCap_le_maxLen w (i + k) c e (by unfold maxLen; omega)
 generalize grownCap w (i + k) c e = G at *
 have hfin := h (w.drew.alloc (.cells (olds.toArray ++ Builtin.zeroCells z.cells k ++ Builtin.zeroCells z.cells (G - (i + k))) e)) G ((Builtin.zeroCells z.cells k).toList ++ (Builtin.zeroCells z.cells (G - (i + k))).toList)
   (by
     have := heap_alloc_new w.drew (.cells (olds.toArray ++ Builtin.zeroCells z.cells k ++ Builtin.zeroCells z.cells (G - (i + k))) e)
     rw [show w.heap.size = w.drew.heap.size from rfl, this]
     simp)
   (by
     have e1 : k + (G - (i + k)) = G - i := by omega
     rw [List.length_append, Array.length_toList, Array.length_toList, size_zeroCells, size_zeroCells, ← Nat.add_mul, e1])
   hG hM ⟨rfl, rfl, rfl, by show w.drew.heap.size ≤ _; rw [World.size_alloc]; omega, fun j hj _ => Below.heap_alloc w.drew _ j hj⟩
 refine wpList_plain hgd fun KK hKK => ?_
 unfold Oper.wp execOp
 simp only [ho, resolve, invoke, builtin, Sem.run_bind, Sem.run_pure, Result.andThen_ok, List.map_toArray, List.map_cons, List.map_nil, hs, hx, hrun]
 exact hKK _ _ hfin
end Go.Proofs.YtlhaeeenkgkdaaaGreatDoor
