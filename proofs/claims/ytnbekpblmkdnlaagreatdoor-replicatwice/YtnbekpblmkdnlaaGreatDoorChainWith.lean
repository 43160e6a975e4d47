/-
  slices.Insert over chains, of one chain, into a row that the call owns: the row with the chain at its place; what else there is stays.
  slices.Insert over chains, of one chain, into a row that the call owns: without room for it, and in whatever case.
  with of the program: chains in which a key's versions are turned by a closure; so Add and Set.
-/
import Derived.Test.YtnbekpblmkdnlaaGreatDoorRefKeys
import Derived.Lib.AppendZerosOnto
import Derived.Lib.Overlaps
import Derived.Laws.IdiomCopy
import Derived.Deep.RegionLaw
import Derived.Stop.Walk2
namespace Go.Proofs.YtnbekpblmkdnlaaGreatDoor
open Go.RowKit

theorem run_copyN (w : World) (dT ty elem sz : Nat) (g o dLen dCap : Nat) (a : Addr) (sLen sCap m : Nat) (cur : Array Value) (t : TypeId) (cs : List Value)
   (hu : Tryz.prog.underlying dT = some (.slice elem)) (hs : (Tryz.prog.info? elem).map (·.size) = some sz)
   (hg : w.heap[g]? = some (.cells cur t (0, 0))) (hm : Nat.min sLen dLen = m) (hn : cs.length = m * sz)
   (hsrc : ∀ j v, cs[j]? = some v → w.cell? (a.add j) = some v) (hfit : o + cs.length ≤ cur.size) (h1 : ∀ v ∈ cs, v.oneCell' = true) :
   (Builtin.copy_ #[dT, dT] ty #[.slice (some ⟨g, o, none⟩) dLen dCap, .slice (some a) sLen sCap]).run Tryz.prog w =
     .ok (goInt m) (w.setRow g (cur.toList.take o ++ cs ++ cur.toList.drop (o + cs.length)).toArray) := by
 have hst := run_storeCells_at Tryz.prog g o t cs 0 cur w hg (by simpa using hfit) h1
 simp only [Nat.add_zero] at hst
 cases hq : Tryz.prog.info? elem with
 | none => simp [hq] at hs
 | some i =>
   have hi : i.size = sz := by simpa [hq] using hs
   have hf := run_firstCells_some (P := Tryz.prog) w sz m a sLen sCap cs hn hsrc
   simp [Builtin.copy_, run_underlying hu, Builtin.lenOf, sizeOf, typeInfo, hq, hi, hm, hf, hst]
theorem grown_setRow (w : World) (g : Nat) (cs : Array Value) : w.grownBy (w.setRow g cs) (some g) := ⟨rfl, rfl, rfl, by simp, fun k _ hk => setRow_other w g k _ (fun e => hk (by rw [e]))⟩
theorem run_copyX (w : World) (dT ty elem sz : Nat) (g o dLen dCap : Nat) (a : Addr) (sLen sCap m : Nat) (cur : Array Value) (t : TypeId) (cs : List Value)
   (hu : Tryz.prog.underlying dT = some (.slice elem)) (hs : (Tryz.prog.info? elem).map (·.size) = some sz)
   (hg : w.heap[g]? = some (.cells cur t (0, 0))) (hm : Nat.min sLen dLen = m) (hn : cs.length = m * sz)
   (hsrc : ∀ j v, cs[j]? = some v → w.cell? (a.add j) = some v) (hfit : o + cs.length ≤ cur.size) (h1 : ∀ v ∈ cs, v.oneCell' = true) :
   ∃ w', (Builtin.copy_ #[dT, dT] ty #[.slice (some ⟨g, o, none⟩) dLen dCap, .slice (some a) sLen sCap]).run Tryz.prog w = .ok (goInt m) w' ∧
     w'.heap[g]? = some (.cells (cur.toList.take o ++ cs ++ cur.toList.drop (o + cs.length)).toArray t (0, 0)) ∧ w.grownBy w' (some g) :=
 ⟨_, run_copyN w dT ty elem sz g o dLen dCap a sLen sCap m cur t cs hu hs hg hm hn hsrc hfit h1, setRow_heap w g cur _ t _ hg, grown_setRow _ _ _⟩
theorem step_copyN (w : World) {ops : Array Oper} {o : Oper} {a : Act} {K : Act → World → Prop} {Q : Exit → Act → World → Prop} {E : Prop} (hgd : o.guard = none) (d s : Operand) (dT elem sz : Nat)
   (ho : o.op = .call { callee := .builtin .copy, args := #[d, s], argTypes := #[dT, dT] }) (hu : Tryz.prog.underlying dT = some (.slice elem)) (hs : (Tryz.prog.info? elem).map (·.size) = some sz)
   (g off dLen dCap : Nat) (ad : Addr) (sLen sCap m : Nat) (cur : Array Value) (t : TypeId) (cs : List Value) (hd : a.eval d = .slice (some ⟨g, off, none⟩) dLen dCap) (hx : a.eval s = .slice (some ad) sLen sCap)
   (hg : w.heap[g]? = some (.cells cur t (0, 0))) (hm : Nat.min sLen dLen = m) (hn : cs.length = m * sz) (hsrc : ∀ j v, cs[j]? = some v → w.cell? (ad.add j) = some v) (hfit : off + cs.length ≤ cur.size) (h1 : ∀ v ∈ cs, v.oneCell' = true)
   (h : ∀ w', w'.heap[g]? = some (.cells (cur.toList.take off ++ cs ++ cur.toList.drop (off + cs.length)).toArray t (0, 0)) → w.grownBy w' (some g) → K (a.put o.dst (goInt m)) w') :
   if Region.wanted o (yielded ops a.tmps) = true then Oper.wp Tryz.prog o a w K Q else E := by
 have hw : Region.wanted o (yielded ops a.tmps) = true := by simp [Region.wanted, hgd]
 rw [if_pos hw]
 have hrun := fun ty => run_copyN w dT ty elem sz g off dLen dCap ad sLen sCap m cur t cs hu hs hg hm hn hsrc hfit h1
 unfold Oper.wp execOp
 simp only [ho, resolve, invoke, builtin, Sem.run_bind, Sem.run_pure, Result.andThen_ok, List.map_toArray, List.map_cons, List.map_nil, hd, hx, hrun]
 exact h _ (setRow_heap w g cur _ t _ hg) (grown_setRow _ _ _)

theorem flat_take {α : Type} {f : α → List Value} {k : Nat} (hk : ∀ x, (f x).length = k) : ∀ (l : List α) (i : Nat), flat f (l.take i) = (flat f l).take (i * k)
 | [], i => by simp [flat]
 | x :: l, 0 => by simp [flat]
 | x :: l, i + 1 => by
   have e : (i + 1) * k = (f x).length + i * k := by rw [hk, Nat.add_mul, Nat.one_mul, Nat.add_comm]
   rw [List.take_succ_cons, flat_cons, flat_cons, flat_take hk l i, e, List.take_length_add_append]
theorem flat_drop {α : Type} {f : α → List Value} {k : Nat} (hk : ∀ x, (f x).length = k) : ∀ (l : List α) (i : Nat), flat f (l.drop i) = (flat f l).drop (i * k)
 | [], i => by simp [flat]
 | x :: l, 0 => by simp
 | x :: l, i + 1 => by
   have e : (i + 1) * k = (f x).length + i * k := by rw [hk, Nat.add_mul, Nat.one_mul, Nat.add_comm]
   rw [List.drop_succ_cons, flat_cons, flat_drop hk l i, e, List.drop_length_add_append]
theorem shift_list {X F E : List Value} {i n s cap : Nat} (hF : X.take (n * s) = F) (hX : X.length = cap * s) (hi : i ≤ n) (hc : n + 1 ≤ cap) (hE : E.length = s) :
   (((X.take ((i + 1) * s) ++ F.drop (i * s) ++ X.drop ((i + 1) * s + (F.drop (i * s)).length)).take (i * s) ++ E ++ (X.take ((i + 1) * s) ++ F.drop (i * s) ++ X.drop ((i + 1) * s + (F.drop (i * s)).length)).drop (i * s + E.length))).take ((n + 1) * s) = F.take (i * s) ++ E ++ F.drop (i * s) := by
 have h1 : i * s ≤ n * s := Nat.mul_le_mul_right _ hi
 have h2 : (n + 1) * s ≤ cap * s := Nat.mul_le_mul_right _ hc
 have e1 : (i + 1) * s = i * s + s := by rw [Nat.add_mul, Nat.one_mul]
 have e2 : (n + 1) * s = n * s + s := by rw [Nat.add_mul, Nat.one_mul]
 have hFl : F.length = n * s := by rw [← hF, List.length_take]; omega
 have hta : (X.take ((i + 1) * s)).length = i * s + s := by rw [List.length_take]; omega
 have hd1 : (X.take ((i + 1) * s) ++ F.drop (i * s) ++ X.drop ((i + 1) * s + (F.drop (i * s)).length)).take (i * s) = F.take (i * s) := by
   rw [List.append_assoc, List.take_append_of_le_length (by rw [hta]; omega), List.take_take, ← hF, List.take_take]
   congr 1
   omega
 have hd2 : (X.take ((i + 1) * s) ++ F.drop (i * s) ++ X.drop ((i + 1) * s + (F.drop (i * s)).length)).drop (i * s + E.length) = F.drop (i * s) ++ X.drop ((i + 1) * s + (F.drop (i * s)).length) := by
   rw [hE, List.append_assoc, ← hta, List.drop_left]
 rw [hd1, hd2, ← List.append_assoc]
 rw [List.take_append_of_le_length]
 · rw [List.take_of_length_le]
   simp only [List.length_append, List.length_take, List.length_drop, hE, hFl]
   omega
 · simp only [List.length_append, List.length_take, List.length_drop, hE, hFl]
   omega
theorem grow_list {R F E : List Value} {i n s : Nat} (hR : R.take (i * s) = F.take (i * s)) (hFl : F.length = n * s) (hi : i ≤ n) (hE : E.length = s) :
   (((R.take (i * s) ++ E ++ R.drop (i * s + E.length)).take ((i + 1) * s) ++ F.drop (i * s) ++ (R.take (i * s) ++ E ++ R.drop (i * s + E.length)).drop ((i + 1) * s + (F.drop (i * s)).length))).take ((n + 1) * s) = F.take (i * s) ++ E ++ F.drop (i * s) := by
 have h1 : i * s ≤ n * s := Nat.mul_le_mul_right _ hi
 have e1 : (i + 1) * s = i * s + s := by rw [Nat.add_mul, Nat.one_mul]
 have e2 : (n + 1) * s = n * s + s := by rw [Nat.add_mul, Nat.one_mul]
 have hft : (F.take (i * s)).length = i * s := by rw [List.length_take]; omega
 have hd1 : (R.take (i * s) ++ E ++ R.drop (i * s + E.length)).take ((i + 1) * s) = F.take (i * s) ++ E := by
   rw [hR, List.take_append_of_le_length (by rw [List.length_append, hft, hE]; omega), List.take_of_length_le]
   rw [List.length_append, hft, hE]; omega
 rw [hd1]
 rw [List.take_append_of_le_length]
 · rw [List.take_of_length_le]
   simp only [List.length_append, List.length_take, List.length_drop, hE, hFl]
   omega
 · simp only [List.length_append, List.length_take, List.length_drop, hE, hFl]
   omega
theorem chnSize : (Tryz.prog.info? 118).map (·.size) = some 2 := by kernel_rfl
theorem chnSizeOf (w : World) : (Go.sizeOf 118).run Tryz.prog w = .ok 2 w := by kernel_rfl
def Inserted (W w2 : World) (B n i : Nat) (v v2 : Value) (S : List Slot) (s : Slot) : Prop := w2.ownsRow B 118 2 v2 (n + 1) (flat slotC (S.take i ++ s :: S.drop i)) ∧ W.grownBy w2 v.ownBlock

set_option maxHeartbeats 4000000 in
set_option maxRecDepth 100000 in
theorem insert_end (S : List Slot) (s : Slot) (n B : Nat) (v : Value) (w : World) (hn : (n + 1) * 40 ≤ 140737488355328) (hB : B ≤ w.heap.size) (ho : w.ownsRow B 118 2 v n (flat slotC S)) :
   Calls Tryz.prog 130 #[v, .int .i64 n, .slice (some ⟨w.heap.size, 0, none⟩) 1 1] (w.alloc (.cells #[.string s.1, .slice s.2.1 s.2.2.1 s.2.2.2] 118)) fun e w2 =>
     ∃ v2, e = .returned v2 ∧ Inserted (w.alloc (.cells #[.string s.1, .slice s.2.1 s.2.2.1 s.2.2.2] 118)) w2 B n n v v2 S s := by
 obtain ⟨vb, vc, hve, hl⟩ := Lies.owned ho
 have hcm := hl.hdr.max
 have hlc := hl.hdr.le
 have hnil := hl.hdr.nil
 unfold maxLen at hcm
 have HW := hid (lies_one w #[.string s.1, .slice s.2.1 s.2.2.1 s.2.2.2] 118 2 rfl)
 have HO := hid (ho.alloc (.cells #[.string s.1, .slice s.2.1 s.2.2.1 s.2.2.2] 118))
 have HB := hid (le_box (o := .cells #[.string s.1, .slice s.2.1 s.2.2.1 s.2.2.2] 118) hB)
 have HE := hid (slotC_one s)
 have hnS : S.length = n := by have := ho.1; rw [flat_length slotC_length] at this; omega
 have HF : Hid (flat slotC S ++ [.string s.1, .slice s.2.1 s.2.2.1 s.2.2.2] = flat slotC (S.take n ++ s :: S.drop n)) := by
   show _ = _
   rw [List.take_of_length_le (by omega), List.drop_eq_nil_of_le (by omega), flat_snoc]; rfl
 have HN := hid hn
 subst hve
 clear hl ho hn hnS
 have t : ((n : Int) == (n : Int)) = true := by simp
 cases vb with
 | none =>
   obtain rfl := hnil rfl
   obtain rfl : n = 0 := by omega
   go_enter Tryz.func130, Tryz.ntmps130
   go_wp2_with (at_builtin; refine wpList_onto _ rfl _ _ 30 118 2 40 _ Tryz.underlying30 chnInfo rfl (by decide) (by decide) rfl B _ _ _ rfl HO.out _ 1 _ _ rfl HW.out HE.out HN.out HB.out ?_)
   intro v2 w2 h1 h2
   rw [HF.out] at h1
   have H1 := hid (And.intro h1 h2)
   clear h1 h2
   go_wp2
   go_ret
   exact ⟨_, rfl, H1.out⟩
 | some a =>
   go_enter Tryz.func130, Tryz.ntmps130
   go_wp2_with (at_builtin; refine wpList_onto _ rfl _ _ 30 118 2 40 _ Tryz.underlying30 chnInfo rfl (by decide) (by decide) rfl B _ _ _ rfl HO.out _ 1 _ _ rfl HW.out HE.out HN.out HB.out ?_)
   all_goals
     intro v2 w2 h1 h2
     rw [HF.out] at h1
     have H1 := hid (And.intro h1 h2)
     clear h1 h2
     go_wp2
     go_ret
     exact ⟨_, rfl, H1.out⟩

theorem shape_block {w : World} {g : Nat} {cur : Array Value} {t : TypeId} {fr : Nat × Nat} (h : w.heap[g]? = some (.cells cur t fr)) : w.shape? g = some (t, cur.size) := by simp [World.shape?, h]
theorem cell_block {w : World} {g j : Nat} {cur : Array Value} {t : TypeId} {fr : Nat × Nat} (h : w.heap[g]? = some (.cells cur t fr)) {u : Value} (hu : cur[j]? = some u) : w.cell? ⟨g, j, none⟩ = some u := by simp [World.cell?, h, hu]

set_option maxHeartbeats 4000000 in
set_option maxRecDepth 100000 in
theorem insert_room (S : List Slot) (s : Slot) (i n B c g : Nat) (cur : Array Value) (w : World) (hi : i < n) (hc : n + 1 ≤ c) (hcm : c ≤ maxLen) (hB : B ≤ g) (hg : w.heap[g]? = some (.cells cur 118 (0, 0))) (hcs : cur.size = c * 2) (hF : cur.toList.take (n * 2) = flat slotC S) :
   Calls Tryz.prog 130 #[.slice (some ⟨g, 0, none⟩) n c, .int .i64 i, .slice (some ⟨w.heap.size, 0, none⟩) 1 1] (w.alloc (.cells #[.string s.1, .slice s.2.1 s.2.2.1 s.2.2.2] 118)) fun e w2 =>
     ∃ v2, e = .returned v2 ∧ Inserted (w.alloc (.cells #[.string s.1, .slice s.2.1 s.2.2.1 s.2.2.2] 118)) w2 B n i (.slice (some ⟨g, 0, none⟩) n c) v2 S s := by
 have HCM := hid hcm
 unfold maxLen at hcm
 have hgw : g < w.heap.size := (Array.getElem?_eq_some_iff.1 hg).1
 obtain ⟨A, hA⟩ : ∃ A, A = w.alloc (.cells #[.string s.1, .slice s.2.1 s.2.2.1 s.2.2.2] 118) := ⟨_, rfl⟩
 have hgA : A.heap[g]? = some (.cells cur 118 (0, 0)) := by rw [hA, Below.heap_alloc w _ g hgw]; exact hg
 have hov : ∀ lb cb, (callFunc 150 #[.slice (some ⟨w.heap.size, 0, none⟩) 1 1, .slice (some ⟨g, (i + 1) * 2, none⟩) lb cb]).run Tryz.prog A = .ok (.value (.bool false)) A := fun lb cb => by
   rw [run_callFunc_extern Tryz.func150 (by kernel_rfl) (by kernel_rfl) (by kernel_rfl) (e := Extern.SlicesOverlaps.overlaps #[30, 30] #[4]) (by kernel_rfl),
     Lib.run_overlaps_apart A 30 4 118 Tryz.underlying30 2 chnSizeOf ⟨w.heap.size, 0, none⟩ ⟨g, (i + 1) * 2, none⟩ 1 1 lb cb (by simp; omega) 118 118 2 cur.size
       (by rw [hA]; exact World.shape?_alloc_at _ _ _ rfl) (shape_block hgA) (by omega) (by rw [hA]; exact World.frozen?_alloc_at _ _ _ _ rfl) (by rw [hA]; exact World.frozen?_alloc_at _ _ _ _ rfl)]
   rfl
 have hz2 : ¬ ((i : Int) = (n : Int)) := by omega
 have hw1 : IntKind.i64.wrap ((i : Int) + 1) = (i : Int) + 1 := by rw [IntKind.wrap_i64]; omega
 have hin : i ≤ n := by omega
 have hb1 : (0 : Int) ≤ (i : Int) + 1 := by omega
 have htn : ((i : Int) + 1).toNat = i + 1 := by omega
 have hb2 : ¬ (c = i + 1) := by omega
 have hb3 : (i : Int) ≤ (n : Int) + 1 := by omega
 have hb4 : ¬ (c = i) := by omega
 have hb5 : (i : Int) + 1 ≤ (n : Int) + 1 := by omega
 obtain ⟨F, hFe⟩ : ∃ F, F = flat slotC S := ⟨_, rfl⟩
 have hFl : F.length = n * 2 := by rw [hFe, ← hF, List.length_take, Array.length_toList]; omega
 have h1c : ∀ u ∈ F, u.oneCell' = true := by rw [hFe]; exact flatS_one S
 rw [← hFe] at hF
 have hFat : ∀ j u, F[j]? = some u → cur[j]? = some u := fun j u hu => by
   rw [← hF, List.getElem?_take] at hu
   split at hu
   · simpa using hu
   · cases hu
 have M1 : Hid (Nat.min (n + 1 - i) (n - i) = n - i) := by show _ = _; simp only [Nat.min_def]; split <;> omega
 have N1 : Hid ((F.drop (i * 2)).length = (n - i) * 2) := by show _ = _; rw [List.length_drop, hFl]; omega
 have S1 : Hid (∀ j u, (F.drop (i * 2))[j]? = some u → A.drew.cell? ((⟨g, i * 2, none⟩ : Addr).add j) = some u) := fun j u hu => by
   rw [Addr.add_lit]
   rw [List.getElem?_drop] at hu
   exact cell_block (w := A.drew) hgA (hFat _ _ hu)
 have T1 : Hid ((i + 1) * 2 + (F.drop (i * 2)).length ≤ cur.size) := by show _ ≤ _; rw [N1.out, hcs]; omega
 have O1 : Hid (∀ u ∈ F.drop (i * 2), u.oneCell' = true) := fun u hu => h1c u (List.mem_of_mem_drop hu)
 have HSH := hid (shift_list (E := [.string s.1, .slice s.2.1 s.2.2.1 s.2.2.2]) hF (by rw [Array.length_toList, hcs]) hin hc rfl)
 have HFE := hid (show F = flat slotC S from hFe)
 have HFL := hid hFl
 have HG := hid hgA
 have HV := hid hov
 have HCS := hid hcs
 have S2 : Hid (∀ j u, ([.string s.1, .slice s.2.1 s.2.2.1 s.2.2.2] : List Value)[j]? = some u → A.cell? ((⟨w.heap.size, 0, none⟩ : Addr).add j) = some u) := fun j u hu => by
   rw [Addr.add_lit, Nat.zero_add, hA]
   exact box_cell _ _ _ _ _ (by simpa using hu)
 have hgne : some w.heap.size ≠ some g := fun e => by cases e; omega
 clear hgA hov hFe hFl h1c hF hFat hcs hg
 have HA : Hid (A = w.alloc (.cells #[.string s.1, .slice s.2.1 s.2.2.1 s.2.2.2] 118)) := hA
 subst hA
 go_enter Tryz.func130, Tryz.ntmps130
 go_wp2_with fail
 rw [HV.out]
 go_wp2
 go_region_law ((refine step_copyN _ rfl _ _ 30 118 2 rfl Tryz.underlying30 chnSize g ((i + 1) * 2) (n - i) (c - (i + 1)) ⟨g, i * 2, none⟩ (n + 1 - i) (c - i) (n - i) cur 118 (F.drop (i * 2)) (by simp [Act.eval, Act.put]) (by simp [Act.eval, Act.put]) HG.out M1.out N1.out S1.out T1.out O1.out ?_; intro w1 hg1 hgr1))
 have HG1 := hid hg1
 have HGR1 := hid hgr1
 have M2 : Hid (Nat.min 1 (n + 1 - i) = 1) := by show _ = _; simp only [Nat.min_def]; split <;> omega
 have S3 : Hid (∀ j u, ([.string s.1, .slice s.2.1 s.2.2.1 s.2.2.2] : List Value)[j]? = some u → w1.cell? ((⟨w.heap.size, 0, none⟩ : Addr).add j) = some u) := fun j u hu => by
   have := S2.out j u hu
   rw [Addr.add_lit] at this ⊢
   exact HGR1.out.cell this hgne
 have L1 : Hid ((cur.toList.take ((i + 1) * 2) ++ F.drop (i * 2) ++ cur.toList.drop ((i + 1) * 2 + (F.drop (i * 2)).length)).toArray.size = c * 2) := by
   show _ = _
   have h1 := N1.out
   have h2 := HCS.out
   simp only [List.size_toArray, List.length_append, List.length_take, List.length_drop, Array.length_toList] at h1 ⊢
   omega
 have T2 : Hid (i * 2 + ([.string s.1, .slice s.2.1 s.2.2.1 s.2.2.2] : List Value).length ≤ (cur.toList.take ((i + 1) * 2) ++ F.drop (i * 2) ++ cur.toList.drop ((i + 1) * 2 + (F.drop (i * 2)).length)).toArray.size) := by
   show _ ≤ _
   rw [L1.out]; simp only [List.length_cons, List.length_nil]; omega
 have O2 := hid (slotC_one s)
 clear hg1 hgr1
 obtain ⟨w2, r2, hg2, hgr2⟩ := run_copyX w1 30 3 118 2 g (i * 2) (n + 1 - i) (c - i) ⟨w.heap.size, 0, none⟩ 1 1 1 _ 118 [.string s.1, .slice s.2.1 s.2.2.1 s.2.2.2] Tryz.underlying30 chnSize HG1.out M2.out rfl S3.out T2.out O2.out
 have R2 := hid r2
 have HG2 := hid hg2
 have HGR2 := hid hgr2
 clear r2 hg2 hgr2
 have HIN : Hid (Inserted (w.alloc (.cells #[.string s.1, .slice s.2.1 s.2.2.1 s.2.2.2] 118)) w2 B n i (.slice (some ⟨g, 0, none⟩) n c) (.slice (some ⟨g, 0, none⟩) (n + 1) c) S s) := by
   refine ⟨⟨?_, .inr ⟨g, c, _, rfl, hB, HG2.out, hc, HCM.out, ?_, ?_⟩⟩, ?_⟩
   · rw [flat_append, flat_cons, flat_take slotC_length, flat_drop slotC_length, ← HFE.out]
     simp only [List.length_append, List.length_take, List.length_drop, HFL.out, slotC_length]
     omega
   · have h1 := L1.out
     simp only [List.size_toArray] at h1
     simp only [List.size_toArray, List.length_append, List.length_take, List.length_drop, List.length_cons, List.length_nil] at h1 ⊢
     omega
   · have h1 := HSH.out
     rw [flat_append, flat_cons, flat_take slotC_length, flat_drop slotC_length, ← HFE.out, ← List.append_assoc]
     exact h1
   · have h1 := HGR1.out
     have h2 := HGR2.out
     exact ⟨h2.os.trans h1.os, h2.tape.trans h1.tape, h2.output.trans h1.output, Nat.le_trans h1.size h2.size, fun k hk hne => (h2.block k (Nat.lt_of_lt_of_le hk h1.size) hne).trans (h1.block k hk hne)⟩
 go_wp2
 rw [R2.out]
 go_wp2
 go_ret
 exact ⟨_, rfl, HIN.out⟩

theorem wpList_zeros (w : World) {ops : Array Oper} {rest : List Oper} {o : Oper} {a : Act} {Q : Exit → Act → World → Prop} (hgd : o.guard = none) (s x : Operand) (t tn e sz bytes : Nat) (z : Value)
   (hu : Tryz.prog.underlying t = some (.slice e)) (hun : Tryz.prog.underlying tn = some (.int .i64)) (hinfo : (Tryz.prog.info? e).map (fun i => (i.zero, i.size, i.bytes)) = some (some z, sz, bytes)) (hsz : 0 < sz)
   (ho : o.op = .call { callee := .builtin .append, args := #[s, x], argTypes := #[t, tn] }) (base : Option Addr) (i c k : Nat) (K : Int) (hs : a.eval s = .slice base i c) (hx : a.eval x = .int .i64 K) (hK : K = (k : Int))
   (olds : List Value) (hold : (Builtin.firstCells sz i (.slice base i c)).run Tryz.prog w.drew = .ok olds.toArray w.drew) (h0 : 0 < k) (hc : c < i + k) (hby : 0 < bytes) (hb : (i + k) * bytes ≤ 140737488355328)
   (h : ∀ w' G ROW, w'.heap[w.heap.size]? = some (.cells (olds ++ ROW).toArray e (0, 0)) → ROW.length = (G - i) * z.cells.size → i + k ≤ G → G ≤ maxLen → w.grownBy w' none → wpList Tryz.prog ops Q rest (a.put o.dst (.slice (some ⟨w.heap.size, 0, none⟩) (i + k) G)) w') : wpList Tryz.prog ops Q (o :: rest) a w := by
 obtain ⟨i0, hi, hz0, hz1, hz2⟩ := info_parts hinfo
 subst hz1
 subst hz2
 have hik : i + k ≤ 140737488355328 := Nat.le_trans (Nat.le_mul_of_pos_right _ hby) hb
 have hkb : k * i0.bytes ≤ (i + k) * i0.bytes := Nat.mul_le_mul_right _ (by omega)
 have hrun := Lib.run_append_grow_zeros (P := Tryz.prog) w t tn o.type e i0 z .i64 .i64 hu hun hi hz0 base i c olds hold k h0 hsz hc (by omega) (by omega) (growslice_fits hc hb)
 subst hK
 have hG := grownCap_ge w (i + k) c e
 have hM := grownCap_le_maxLen w (i + k) c e (by unfold maxLen; omega)
 generalize grownCap w (i + k) c e = G at *
 have hfin := h (w.drew.alloc (.cells (olds.toArray ++ Builtin.zeroCells z.cells k ++ Builtin.zeroCells z.cells (G - (i + k))) e)) G ((Builtin.zeroCells z.cells k).toList ++ (Builtin.zeroCells z.cells (G - (i + k))).toList)
   (by
     have := heap_alloc_new w.drew (.cells (olds.toArray ++ Builtin.zeroCells z.cells k ++ Builtin.zeroCells z.cells (G - (i + k))) e)
     rw [show w.heap.size = w.drew.heap.size from rfl, this]
     simp)
   (by
     have e1 : k + (G - (i + k)) = G - i := by omega
     rw [List.length_append, Array.length_toList, Array.length_toList, size_zeroCells, size_zeroCells, ← Nat.add_mul, e1])
   hG hM ⟨rfl, rfl, rfl, by show w.drew.heap.size ≤ _; rw [World.size_alloc]; omega, fun j hj _ => Below.heap_alloc w.drew _ j hj⟩
 refine wpList_plain hgd fun KK hKK => ?_
 unfold Oper.wp execOp
 simp only [ho, resolve, invoke, builtin, Sem.run_bind, Sem.run_pure, Result.andThen_ok, List.map_toArray, List.map_cons, List.map_nil, hs, hx, hrun]
 exact hKK _ _ hfin
end Go.Proofs.YtnbekpblmkdnlaaGreatDoor

namespace Go.Proofs.YtnbekpblmkdnlaaGreatDoor
open Go.RowKit

set_option maxHeartbeats 4000000 in
set_option maxRecDepth 100000 in
theorem insert_grow (S : List Slot) (s : Slot) (i n B c g : Nat) (cur : Array Value) (w : World) (hi : i < n) (hnc : n ≤ c) (hc : c < n + 1) (hn : (n + 1) * 40 ≤ 140737488355328) (hB : B ≤ w.heap.size) (hg : w.heap[g]? = some (.cells cur 118 (0, 0))) (hcs : cur.size = c * 2) (hF : cur.toList.take (n * 2) = flat slotC S) :
   Calls Tryz.prog 130 #[.slice (some ⟨g, 0, none⟩) n c, .int .i64 i, .slice (some ⟨w.heap.size, 0, none⟩) 1 1] (w.alloc (.cells #[.string s.1, .slice s.2.1 s.2.2.1 s.2.2.2] 118)) fun e w2 =>
     ∃ v2, e = .returned v2 ∧ Inserted (w.alloc (.cells #[.string s.1, .slice s.2.1 s.2.2.1 s.2.2.2] 118)) w2 B n i (.slice (some ⟨g, 0, none⟩) n c) v2 S s := by
 have hgw : g < w.heap.size := (Array.getElem?_eq_some_iff.1 hg).1
 obtain ⟨A, hA⟩ : ∃ A, A = w.alloc (.cells #[.string s.1, .slice s.2.1 s.2.2.1 s.2.2.2] 118) := ⟨_, rfl⟩
 have hgA : A.heap[g]? = some (.cells cur 118 (0, 0)) := by rw [hA, Below.heap_alloc w _ g hgw]; exact hg
 have hsA : A.heap.size = w.heap.size + 1 := by rw [hA, World.size_alloc]
 have hz2 : ¬ ((i : Int) = (n : Int)) := by omega
 have hw1 : IntKind.i64.wrap ((i : Int) + 1) = (i : Int) + 1 := by rw [IntKind.wrap_i64]; omega
 have hin : i ≤ n := by omega
 have hb0 : (c : Int) < (n : Int) + 1 := by omega
 have hb1 : (0 : Int) ≤ (i : Int) + 1 := by omega
 have htn : ((i : Int) + 1).toNat = i + 1 := by omega
 have hb3 : (i : Int) ≤ (n : Int) + 1 := by omega
 have hb4 : ¬ (c = i) := by omega
 have hb5 : (i : Int) + 1 ≤ (n : Int) + 1 := by omega
 have hb6 : (i : Int) ≤ (n : Int) := by omega
 obtain ⟨F, hFe⟩ : ∃ F, F = flat slotC S := ⟨_, rfl⟩
 have hFl : F.length = n * 2 := by rw [hFe, ← hF, List.length_take, Array.length_toList]; omega
 have h1c : ∀ u ∈ F, u.oneCell' = true := by rw [hFe]; exact flatS_one S
 rw [← hFe] at hF
 have hFat : ∀ j u, F[j]? = some u → cur[j]? = some u := fun j u hu => by
   rw [← hF, List.getElem?_take] at hu
   split at hu
   · simpa using hu
   · cases hu
 have FC : Hid ((Builtin.firstCells 2 i (.slice (some ⟨g, 0, none⟩) i c)).run Tryz.prog A.drew = .ok (F.take (i * 2)).toArray A.drew) := by
   refine run_firstCells_some (P := Tryz.prog) A.drew 2 i ⟨g, 0, none⟩ i c (F.take (i * 2)) (by rw [List.length_take]; omega) (fun j u hu => ?_)
   rw [Addr.add_lit, Nat.zero_add]
   rw [List.getElem?_take] at hu
   split at hu
   · exact cell_block (w := A.drew) hgA (hFat _ _ hu)
   · cases hu
 have KI : Hid ((n : Int) + 1 - (i : Int) = ((n + 1 - i : Nat) : Int)) := by show _ = _; omega
 have CK : Hid (c < i + (n + 1 - i)) := by show _ < _; omega
 have BK : Hid ((i + (n + 1 - i)) * 40 ≤ 140737488355328) := by show _ ≤ _; rw [show i + (n + 1 - i) = n + 1 from by omega]; exact hn
 have HFE := hid (show F = flat slotC S from hFe)
 have HFL := hid hFl
 have HG := hid hgA
 have HFA := hid hFat
 have O1 : Hid (∀ u ∈ F.drop (i * 2), u.oneCell' = true) := fun u hu => h1c u (List.mem_of_mem_drop hu)
 have O2 := hid (slotC_one s)
 have S2 : Hid (∀ j u, ([.string s.1, .slice s.2.1 s.2.2.1 s.2.2.2] : List Value)[j]? = some u → A.cell? ((⟨w.heap.size, 0, none⟩ : Addr).add j) = some u) := fun j u hu => by
   rw [Addr.add_lit, Nat.zero_add, hA]
   exact box_cell _ _ _ _ _ (by simpa using hu)
 have N1 : Hid ((F.drop (i * 2)).length = (n - i) * 2) := by show _ = _; rw [List.length_drop, hFl]; omega
 have P0 : Hid (0 < n + 1 - i) := by show _ < _; omega
 clear hgA hFe hFl h1c hF hFat hcs hg
 have HSA := hid hsA
 clear hsA
 subst hA
 go_enter Tryz.func130, Tryz.ntmps130
 go_wp2_with (at_builtin; refine wpList_zeros _ rfl _ _ 30 3 118 2 40 _ Tryz.underlying30 Tryz.underlying3 chnInfo (by decide) rfl (some ⟨g, 0, none⟩) i c (n + 1 - i) _ rfl rfl KI.out (F.take (i * 2)) FC.out P0.out CK.out (by decide) BK.out ?_)
 intro w1 G ROW hr hrl hGe hGm hgr1
 have hik : i + (n + 1 - i) = n + 1 := by omega
 rw [hik] at hGe ⊢
 have HGM := hid hGm
 unfold maxLen at hGm
 have hGi : ¬ (G = i) := by omega
 have hGj : ¬ (G = i + 1) := by omega
 have hE2 : ([.string s.1, .slice s.2.1 s.2.2.1 s.2.2.2] : List Value).length = 2 := rfl
 have hE2' : ([.string s.1, .slice s.2.1 s.2.2.1 s.2.2.2] : List Value).length = 1 * 2 := rfl
 have hRl : ROW.length = (G - i) * 2 := hrl
 have hsz : (F.take (i * 2) ++ ROW).toArray.size = G * 2 := by
   have := HFL.out
   simp only [List.size_toArray, List.length_append, List.length_take]
   omega
 have hsz1 : ((F.take (i * 2) ++ ROW).toArray.toList.take (i * 2) ++ ([.string s.1, .slice s.2.1 s.2.2.1 s.2.2.2] : List Value) ++ (F.take (i * 2) ++ ROW).toArray.toList.drop (i * 2 + ([.string s.1, .slice s.2.1 s.2.2.1 s.2.2.2] : List Value).length)).toArray.size = G * 2 := by
   simp only [List.size_toArray] at hsz
   simp only [List.size_toArray, List.length_append, List.length_take, List.length_drop, hE2] at hsz ⊢
   omega
 obtain ⟨w2, r2, hg2, hgr2⟩ := run_copyX w1 30 3 118 2 (w.heap.size + 1) (i * 2) (n + 1 - i) (G - i) ⟨w.heap.size, 0, none⟩ 1 1 1 _ 118 [.string s.1, .slice s.2.1 s.2.2.1 s.2.2.2] Tryz.underlying30 chnSize hr
   (by simp only [Nat.min_def]; split <;> omega) hE2' (fun j u hu => by have := S2.out j u hu; rw [Addr.add_lit] at this ⊢; exact hgr1.cell this (by simp)) (by rw [hsz, hE2]; omega) O2.out
 have HSH := hid (grow_list (R := (F.take (i * 2) ++ ROW).toArray.toList) (F := F) (E := [.string s.1, .slice s.2.1 s.2.2.1 s.2.2.2]) (i := i) (n := n) (s := 2) (by
   have := HFL.out
   simp only
   rw [List.take_append_of_le_length (by rw [List.length_take]; omega), List.take_take, Nat.min_self]) HFL.out hin hE2)
 have R2 := hid r2
 have HG2 := hid hg2
 have HGR2 := hid hgr2
 have HGR1 := hid hgr1
 have HS1 := hid hsz1
 have M1 : Hid (Nat.min (n - i) (n - i) = n - i) := by show _ = _; simp only [Nat.min_def]; split <;> omega
 have S1 : Hid (∀ j u, (F.drop (i * 2))[j]? = some u → w2.drew.cell? ((⟨g, i * 2, none⟩ : Addr).add j) = some u) := fun j u hu => by
   rw [Addr.add_lit]
   rw [List.getElem?_drop] at hu
   have h1 := cell_block HG.out (HFA.out _ _ hu)
   exact HGR2.out.cell (HGR1.out.cell h1 (by simp)) (by simp; omega)
 have T1 : Hid ((i + 1) * 2 + (F.drop (i * 2)).length ≤ ((F.take (i * 2) ++ ROW).toArray.toList.take (i * 2) ++ ([.string s.1, .slice s.2.1 s.2.2.1 s.2.2.2] : List Value) ++ (F.take (i * 2) ++ ROW).toArray.toList.drop (i * 2 + ([.string s.1, .slice s.2.1 s.2.2.1 s.2.2.2] : List Value).length)).toArray.size) := by
   show _ ≤ _
   rw [N1.out, HS1.out]; omega
 clear r2 hg2 hgr2 hgr1 hsz hsz1 hr hrl hRl hE2 hE2'
 go_wp2
 rw [R2.out]
 go_wp2
 go_region_law ((refine step_copyN _ rfl _ _ 30 118 2 rfl Tryz.underlying30 chnSize (w.heap.size + 1) ((i + 1) * 2) (n - i) (G - (i + 1)) ⟨g, i * 2, none⟩ (n - i) (c - i) (n - i) _ 118 (F.drop (i * 2)) (by simp [Act.eval, Act.put]) (by simp [Act.eval, Act.put]) HG2.out M1.out N1.out S1.out T1.out O1.out ?_; intro w3 hg3 hgr3))
 have HIN : Hid (Inserted (w.alloc (.cells #[.string s.1, .slice s.2.1 s.2.2.1 s.2.2.2] 118)) w3 B n i (.slice (some ⟨g, 0, none⟩) n c) (.slice (some ⟨w.heap.size + 1, 0, none⟩) (n + 1) G) S s) := by
   refine ⟨⟨?_, .inr ⟨w.heap.size + 1, G, _, rfl, Nat.le_succ_of_le hB, hg3, hGe, HGM.out, ?_, ?_⟩⟩, ?_⟩
   · rw [flat_append, flat_cons, flat_take slotC_length, flat_drop slotC_length, ← HFE.out]
     simp only [List.length_append, List.length_take, List.length_drop, HFL.out, slotC_length]
     omega
   · have h1 := HS1.out
     have h2 := N1.out
     simp only [List.size_toArray] at h1
     simp only [List.size_toArray, List.length_append, List.length_take, List.length_drop] at h1 h2 ⊢
     omega
   · have h1 := HSH.out
     rw [flat_append, flat_cons, flat_take slotC_length, flat_drop slotC_length, ← HFE.out, ← List.append_assoc]
     exact h1
   · have h1 := HGR1.out
     have h2 := HGR2.out
     have hs : (w.alloc (.cells #[.string s.1, .slice s.2.1 s.2.2.1 s.2.2.2] 118)).heap.size = w.heap.size + 1 := World.size_alloc _ _
     refine ⟨hgr3.os.trans (h2.os.trans h1.os), hgr3.tape.trans (h2.tape.trans h1.tape), hgr3.output.trans (h2.output.trans h1.output), Nat.le_trans (Nat.le_trans h1.size h2.size) hgr3.size, fun k hk hne => ?_⟩
     have hk1 : k < w1.heap.size := Nat.lt_of_lt_of_le hk h1.size
     have hk2 : k < w2.heap.size := Nat.lt_of_lt_of_le hk1 h2.size
     have hkn : some k ≠ some (w.heap.size + 1) := fun e => by cases e; omega
     exact ((hgr3.block k hk2 hkn).trans (h2.block k hk1 hkn)).trans (h1.block k hk (by simp))
 clear hg3 hgr3
 go_wp2
 go_ret
 exact ⟨_, rfl, HIN.out⟩

theorem insert_calls (S : List Slot) (s : Slot) (i n B : Nat) (v : Value) (w : World) (hi : i ≤ n) (hn : (n + 1) * 40 ≤ 140737488355328) (hB : B ≤ w.heap.size) (ho : w.ownsRow B 118 2 v n (flat slotC S)) :
   Calls Tryz.prog 130 #[v, .int .i64 i, .slice (some ⟨w.heap.size, 0, none⟩) 1 1] (w.alloc (.cells #[.string s.1, .slice s.2.1 s.2.2.1 s.2.2.2] 118)) fun e w2 =>
     ∃ v2, e = .returned v2 ∧ Inserted (w.alloc (.cells #[.string s.1, .slice s.2.1 s.2.2.1 s.2.2.2] 118)) w2 B n i v v2 S s := by
 by_cases h : i = n
 · subst h; exact insert_end S s i B v w hn hB ho
 · rcases ho.2 with ⟨_, h0⟩ | ⟨g, c, cur, rfl, hBg, hg, hnc, hcm, hcs, hF⟩
   · omega
   · by_cases hc : n + 1 ≤ c
     · exact insert_room S s i n B c g cur w (by omega) hc hcm hBg hg hcs hF
     · exact insert_grow S s i n B c g cur w (by omega) hnc (by omega) hn hB hg hcs hF
end Go.Proofs.YtnbekpblmkdnlaaGreatDoor

namespace Go.Proofs.YtnbekpblmkdnlaaGreatDoor
open Go.RowKit

theorem getD_setL {α : Type} [Inhabited α] (l : List α) (p i : Nat) (x : α) (hp : p < l.length) : (l.set p x).getD i default = if i = p then x else l.getD i default := by
 by_cases e : i = p
 · subst e; simp [List.getD, hp]
 · rw [if_neg e]; simp [List.getD, Ne.symm e]
theorem getD_ins {α : Type} [Inhabited α] (l : List α) (p i : Nat) (x : α) (hp : p ≤ l.length) : (l.take p ++ x :: l.drop p).getD i default = if i < p then l.getD i default else if i = p then x else l.getD (i - 1) default := by
 have hl : (l.take p).length = p := by rw [List.length_take]; omega
 by_cases h1 : i < p
 · rw [if_pos h1]
   simp [List.getD, List.getElem?_append_left (show i < (l.take p).length by omega), h1]
 · rw [if_neg h1]
   simp only [List.getD, List.getElem?_append_right (show (l.take p).length ≤ i by omega), hl]
   by_cases h2 : i = p
   · subst h2; simp
   · rw [if_neg h2]
     obtain ⟨m, hm⟩ : ∃ m, i - p = m + 1 := ⟨i - p - 1, by omega⟩
     rw [hm, List.getElem?_cons_succ, List.getElem?_drop, show p + m = i - 1 from by omega]
theorem flat_set {α : Type} {f : α → List Value} {k : Nat} (hk : ∀ x, (f x).length = k) (u : Value) : ∀ (l : List α) (p j : Nat) (x y : α), p < l.length → j < k → l[p]? = some x → f y = (f x).set j u → (flat f l).set (p * k + j) u = flat f (l.set p y)
 | [], p, _, _, _, h, _, _, _ => absurd h (Nat.not_lt_zero _)
 | z :: l, 0, j, x, y, _, hj, hx, hy => by
   simp only [List.getElem?_cons_zero, Option.some.injEq] at hx
   subst hx
   rw [List.set_cons_zero, flat_cons, flat_cons, hy, Nat.zero_mul, Nat.zero_add, List.set_append_left _ _ (by rw [hk]; exact hj)]
 | z :: l, p + 1, j, x, y, h, hj, hx, hy => by
   rw [List.set_cons_succ, flat_cons, flat_cons, ← flat_set hk u l p j x y (by simpa using h) hj (by simpa using hx) hy]
   rw [List.set_append_right _ _ (by rw [hk, Nat.add_mul]; omega), hk]
   congr 2
   rw [Nat.add_mul]; omega
theorem slot_set (s : Slot) (v : Value) (b : Option Addr) (n c : Nat) (hv : v = .slice b n c) : slotC (s.1, b, n, c) = (slotC s).set 1 v := by subst hv; rfl
theorem slots_set {w w3 : World} {B g n c p : Nat} {S : List Slot} {L : List Chn} {xs : List Value} (hs : OwnSlots w B S L) (hp : p < L.length) (hg : w.grownBy w3 (slotV (S.getD p default)).ownBlock) (hrow : w3.ownsRow B 118 2 (.slice (some ⟨g, 0, none⟩) n c) n xs)
   (s' : Slot) (x' : Chn) (hk : s'.1 = x'.1) (hz : x'.1.size ≤ maxLen) (hnew : OwnsV w3 B (slotV s') x'.2) (o : Nat) (u : Value) (B' : Nat) : SlotsAre (w3.setCell ⟨g, o, none⟩ u) B' 93 (S.set p s') (L.set p x') := by
 have hgr := (World.ownsRow.stored hrow o u).2
 have keep : ∀ v l, OwnsV w3 B v l → OwnsV (w3.setCell ⟨g, o, none⟩ u) B v l := fun v l h => h.kept hgr (rows_apart h hrow (by decide))
 have isl : ∀ s x, s.1 = x.1 → x.1.size ≤ maxLen → OwnsV (w3.setCell ⟨g, o, none⟩ u) B (slotV s) x.2 → SlotIs (w3.setCell ⟨g, o, none⟩ u) B' 93 s x := fun s x h1 h2 h3 => by
   obtain ⟨b, c', e, hl⟩ := Lies.owned h3
   simp only [Value.slice.injEq] at e
   obtain ⟨e1, e2, e3⟩ := e
   rw [slotV, e1, e2, e3] at h3
   refine ⟨h1, by rw [e1, e2, e3]; exact hl, by rw [e1, e2]; exact Lies.kind h3 B', h2⟩
 have hpS : p < S.length := by rw [hs.len]; exact hp
 refine ⟨by simp [hs.len], fun i hi => ?_⟩
 have hi' : i < L.length := by simpa using hi
 rw [getD_setL S p i s' hpS, getD_setL L p i x' hp]
 by_cases e : i = p
 · rw [if_pos e, if_pos e]
   exact isl s' x' hk hz (keep _ _ hnew)
 · rw [if_neg e, if_neg e]
   refine isl _ _ (hs.key i hi').1 (hs.key i hi').2 (keep _ _ ((hs.own i hi').kept hg ?_))
   cases ho : (slotV (S.getD i default)).ownBlock with
   | none => exact .inl rfl
   | some a =>
     refine .inr fun e2 => ?_
     rcases Nat.lt_or_gt_of_ne e with h | h
     · exact hs.apart i p h hp a ho e2.symm
     · exact hs.apart p i h hi' a e2.symm ho
theorem slots_ins {w : World} {B t p : Nat} {S : List Slot} {L : List Chn} {s : Slot} {x : Chn} (h : SlotsAre w B t S L) (hs : SlotIs w B t s x) (hp : p ≤ L.length) : SlotsAre w B t (S.take p ++ s :: S.drop p) (L.take p ++ x :: L.drop p) := by
 have hl := h.1
 refine ⟨by simp; omega, fun i hi => ?_⟩
 have hi' : i < L.length + 1 := by simp at hi; omega
 rw [getD_ins S p i s (by omega), getD_ins L p i x hp]
 by_cases h1 : i < p
 · rw [if_pos h1, if_pos h1]; exact h.2 i (by omega)
 · rw [if_neg h1, if_neg h1]
   by_cases h2 : i = p
   · rw [if_pos h2, if_pos h2]; exact hs
   · rw [if_neg h2, if_neg h2]; exact h.2 (i - 1) (by omega)
theorem own_slot {w : World} {B B' : Nat} {s : Slot} {x : Chn} (h1 : s.1 = x.1) (h2 : x.1.size ≤ maxLen) (h3 : OwnsV w B (slotV s) x.2) : SlotIs w B' 93 s x := by
 obtain ⟨b, c', e, hl⟩ := Lies.owned h3
 simp only [Value.slice.injEq] at e
 obtain ⟨e1, e2, e3⟩ := e
 rw [slotV, e1, e2, e3] at h3
 exact ⟨h1, by rw [e1, e2, e3]; exact hl, by rw [e1, e2]; exact Lies.kind h3 B', h2⟩

def Turns (w : World) (F : Nat) (caps : Array Value) (f : List Ver → List Ver) : Prop :=
 ∀ (W : World) (v : Value) (l : List Ver), Below w.heap.size w W → OwnsV W w.heap.size v l → Rise l → l.length ≤ 1954687338214 →
   Calls Tryz.prog F (#[v] ++ caps) W fun e w' => ∃ v', e = .returned v' ∧ OwnsV w' w.heap.size v' (f l) ∧ W.grownBy w' v.ownBlock

def ChainsToldK (w w' : World) (L : List Chn) (e : Ending) : Prop := ∃ (base : Option Addr) (n c : Nat), e = .returned (.slice base n c) ∧ ChK w' base n c L ∧ Below w.heap.size w w'
def ChainsTold (w w' : World) (L : List Chn) (e : Ending) : Prop := ∃ (base : Option Addr) (n c : Nat), e = .returned (.slice base n c) ∧ ChainsIn w' base n c L ∧ Below w.heap.size w w'

set_option maxHeartbeats 2000000 in
set_option maxRecDepth 100000 in
theorem withC_calls (L : List Chn) (base : Option Addr) (n c : Nat) (k : ByteArray) (F : Nat) (caps : Array Value) (f : List Ver → List Ver) (w : World) (hf : FitC L) (ha : ChainsIn w base n c L) (hk : k.size ≤ maxLen) (hcf : Entered F) (ht : Turns w F caps f) :
   Calls Tryz.prog 110 #[.slice base n c, .string k, .func (.func F) #[] caps] w fun e w' => ChainsToldK w w' (withC k f L) e := by
 have hcn : n ≤ 387420489 := by rw [ha.len]; exact hf.count
 have HO := hid (ownC_calls L base n c w hf ha)
 have HN := hid ha.len
 have HF := hid hf
 have HT := hid ht
 have HK := hid hk
 have HPL := hid (posC_le k L)
 unfold Entered at hcf
 clear hf ha ht hk
 cases hat : isAtC k L with
 | true =>
   have HAT : Hid (posC k L < L.length ∧ (L.getD (posC k L) default).1 = k) := by
     show _ ∧ _
     unfold isAtC at hat
     simp only [Bool.and_eq_true, decide_eq_true_eq] at hat
     exact hat
   have HW : Hid (withC k f L = L.set (posC k L) (k, f (L.getD (posC k L) default).2)) := by
     show _ = _
     unfold withC; rw [if_pos hat]
   have HFI := hid (fun b1 c1 W h1 h2 => findC_calls L b1 n c1 k W h1 HF.out.srt h2)
   rw [hat] at HFI
   clear hat
   generalize posC k L = p at *
   have hpn : p < n := by rw [HN.out]; exact HAT.out.1
   have hi : (p : Int) < (n : Int) := by omega
   go_enter Tryz.func110, Tryz.ntmps110
   go_wp2_with fail
   refine HO.out.mono ?_
   rintro e w1 ⟨v, S, rfl, ho, hsl, hb⟩
   obtain ⟨base1, c1, rfl, hch⟩ := chains_owned ho hsl
   have HO1 := hid ho
   have HS1 := hid hsl
   have HB1 := hid hb
   have HC1 := hid (HFI.out base1 c1 w1 (by omega) hch)
   clear ho hsl hb hch HO
   go_wp2_with fail
   refine HC1.out.mono ?_
   rintro e w2 ⟨rfl, hb2⟩
   have HB2 := hid (below_deep HB1.out hb2)
   have HO2 := hid (owns_keep HO1.out hb2)
   have HS2 := hid (HS1.out.below hb2)
   obtain ⟨g, rfl⟩ : ∃ g, base1 = some ⟨g, 0, none⟩ := by
     rcases HO2.out.2 with ⟨_, h0⟩ | ⟨g, cap, cur, h', _⟩
     · omega
     · simp only [Value.slice.injEq] at h'
       exact ⟨g, h'.1⟩
   have hpS : p < S.length := by rw [HS2.out.len]; exact HAT.out.1
   have hgw : g < w2.heap.size := (HO2.out.lt g rfl).2
   have c0 : w2.cell? ⟨g, p * 2 + 1, none⟩ = some (slotV (S.getD p default)) := by
     rw [World.ownsRow.cellAt HO2.out _ (by omega)]
     exact flat_at slotC_length S p hpS 1 _ rfl
   have HCF := hid (HT.out w2 _ _ HB2.out (HS2.out.own p HAT.out.1) (HF.out.rise _ (memC HAT.out.1)) (HF.out.few _ (memC HAT.out.1)))
   clear hb2 HC1 HFI
   have HNE : Hid (some g ≠ (slotV (S.getD p default)).ownBlock) := by
     rcases rows_apart HO2.out (HS2.out.own p HAT.out.1) (by decide) with h | h
     · simp [Value.ownBlock] at h
     · intro e; exact h (by rw [← e]; rfl)
   rcases hsp : S.getD p default with ⟨sk, sb, sn, sc⟩
   rw [hsp] at c0 HCF HNE
   have HSP := hid hsp
   simp only [slotV] at c0 HCF
   clear hsp
   go_wp2_with fail
   refine HCF.out.mono ?_
   rintro e w3 ⟨v', rfl, hov, hgr⟩
   have c3 := hgr.cell c0 HNE.out
   have hgw3 : g < w3.heap.size := Nat.lt_of_lt_of_le hgw hgr.size
   have HO3 := hid (HO2.out.kept hgr (.inr (by simpa [Value.ownBlock] using HNE.out)))
   have hfz := World.ownsRow.frozenAt HO3.out (p * 2 + 1)
   obtain ⟨vb, vc, rfl, hvl⟩ := Lies.owned hov
   have HFIN : Hid (ChK (w3.setCell ⟨g, p * 2 + 1, none⟩ (.slice vb (f (L.getD p default).2).length vc)) (some ⟨g, 0, none⟩) n c1 (withC k f L)) := by
     have st := (World.ownsRow.stored HO3.out (p * 2 + 1) (.slice vb (f (L.getD p default).2).length vc)).1
     have hget : S[p]? = some (sk, sb, sn, sc) := by
       rw [← HSP.out]
       simp [List.getD, hpS]
     rw [flat_set slotC_length _ S p 1 _ (sk, vb, (f (L.getD p default).2).length, vc) hpS (by omega) hget (slot_set (sk, sb, sn, sc) _ _ _ _ rfl)] at st
     obtain ⟨b', c', e, hl⟩ := Lies.owned st
     simp only [Value.slice.injEq, true_and] at e
     obtain ⟨e1, e2⟩ := e
     rw [← e1, ← e2] at hl
     have hkey : sk = k := by
       have := (HS2.out.key p HAT.out.1).1
       rw [HSP.out, HAT.out.2] at this
       exact this
     have hsl := slots_set HS2.out HAT.out.1 (by rw [HSP.out]; exact hgr) HO3.out (sk, vb, (f (L.getD p default).2).length, vc) (k, f (L.getD p default).2) hkey HK.out hov (p * 2 + 1) (.slice vb (f (L.getD p default).2).length vc) 0
     rw [HW.out]
     exact ⟨_, hl, Kind.owned st, hsl⟩
   have HBF : Hid (Below w.heap.size w (w3.setCell ⟨g, p * 2 + 1, none⟩ (.slice vb (f (L.getD p default).2).length vc))) := by
     have hown := HS2.out.own p HAT.out.1
     rw [HSP.out] at hown
     exact (HB2.out.grown hgr HB2.out.size (fun a h => (hown.lt a h).1)).setCell (p := ⟨g, p * 2 + 1, none⟩) (HO2.out.lt g rfl).1 _
   clear hov hgr hvl
   generalize (f (L.getD p default).2).length = fn at *
   go_wp2
   go_ret
   exact ⟨_, _, _, rfl, HFIN.out, HBF.out⟩
 | false =>
   have HFI := hid (fun b1 c1 W h1 h2 => findC_calls L b1 n c1 k W h1 HF.out.srt h2)
   rw [hat] at HFI
   have HW : Hid (withC k f L = if f [] = [] then L else L.take (posC k L) ++ (k, f []) :: L.drop (posC k L)) := by
     show _ = _
     unfold withC; rw [if_neg (by rw [hat]; simp)]
   clear hat
   generalize posC k L = p at *
   have hpn : p ≤ n := by rw [HN.out]; exact HPL.out
   go_enter Tryz.func110, Tryz.ntmps110
   go_wp2_with fail
   refine HO.out.mono ?_
   rintro e w1 ⟨v, S, rfl, ho, hsl, hb⟩
   obtain ⟨base1, c1, rfl, hch⟩ := chains_owned ho hsl
   have HO1 := hid ho
   have HS1 := hid hsl
   have HB1 := hid hb
   have HC1 := hid (HFI.out base1 c1 w1 (by omega) hch)
   clear ho hsl hb hch HO
   go_wp2_with fail
   refine HC1.out.mono ?_
   rintro e w2 ⟨rfl, hb2⟩
   have HB2 := hid (below_deep HB1.out hb2)
   have HO2 := hid (owns_keep HO1.out hb2)
   have HS2 := hid (HS1.out.below hb2)
   have HCF := hid (HT.out w2 (.slice none 0 0) [] HB2.out (World.ownsRow_nil _ _ _ _) List.Pairwise.nil (by simp))
   clear hb2 HC1 HFI
   go_wp2_with fail
   refine HCF.out.mono ?_
   rintro e w3 ⟨v', rfl, hov, hgr⟩
   have HB3 := hid (HB2.out.grown hgr HB2.out.size (fun a h => by cases h))
   have HO3 := hid (HO2.out.kept hgr (by show _ ∨ _ ≠ none; cases Value.ownBlock (Value.slice base1 n c1) <;> simp))
   have HS3 : Hid (SlotsAre w3 0 93 S L) :=
     (OwnSlots.are ⟨HS2.out.len, HS2.out.key, fun i hi => (HS2.out.own i hi).kept hgr (by show _ ∨ _ ≠ none; cases Value.ownBlock (slotV (S.getD i default)) <;> simp), HS2.out.apart⟩ _)
   obtain ⟨vb, vc, rfl, hvl⟩ := Lies.owned hov
   have HOV := hid hov
   clear hov hgr hvl HCF HS2 HO2 HS1 HO1
   by_cases hfl : f [] = []
   · have HFIN : Hid (ChK w3 base1 n c1 (withC k f L)) := by
       show ChK _ _ _ _ _
       rw [HW.out, if_pos hfl]
       obtain ⟨b', c', e, hl⟩ := Lies.owned HO3.out
       simp only [Value.slice.injEq, true_and] at e
       obtain ⟨e1, e2⟩ := e
       rw [← e1, ← e2] at hl
       exact ⟨_, hl, Kind.owned HO3.out, HS3.out⟩
     have hlen : (f []).length = 0 := by rw [hfl]; rfl
     clear hfl
     generalize (f []).length = fn at *
     subst hlen
     go_wp2
     go_ret
     exact ⟨_, _, _, rfl, HFIN.out, HB3.out⟩
   · have hlen : 0 < (f []).length := List.length_pos_iff.2 hfl
     have hlm : (f []).length ≤ 9223372036854775807 := by
       rcases HOV.out.2 with ⟨_, h0⟩ | ⟨_, cap, _, _, _, _, h1, h2, _⟩
       · omega
       · unfold maxLen at h2; omega
     have HWW : Hid (withC k f L = L.take p ++ (k, f []) :: L.drop p) := by
       show _ = _
       rw [HW.out, if_neg hfl]
     have HIN := hid (insert_calls S (k, vb, (f []).length, vc) p n w.heap.size (.slice base1 n c1) w3 hpn (by omega) HB3.out.size HO3.out)
     have HSI : Hid (SlotIs w3 0 93 (k, vb, (f []).length, vc) (k, f [])) := own_slot (x := (k, f [])) rfl HK.out HOV.out
     have HLE : Hid (p ≤ L.length) := by show _ ≤ _; rw [← HN.out]; exact hpn
     clear hfl HW
     generalize hfn : (f []).length = fn at *
     clear hfn
     have hne : ((fn : Int) == 0) = false := by simp; omega
     go_wp2_with fail
     refine HIN.out.mono ?_
     rintro e w4 ⟨v4, rfl, ho4, hg4⟩
     obtain ⟨b4, c4, rfl, hl4⟩ := Lies.owned ho4
     have HFIN : Hid (ChK w4 b4 (n + 1) c4 (withC k f L)) := by
       show ChK _ _ _ _ _
       rw [HWW.out]
       have hbx := grew w3 (.cells #[.string k, .slice vb fn vc] 118)
       exact ⟨_, hl4, Kind.owned ho4, (slots_ins (HS3.out.below hbx) (HSI.out.below hbx) HLE.out).grown (owns_lower (HO3.out.alloc _) (Nat.zero_le _)) (by decide) hg4⟩
     have HBF : Hid (Below w.heap.size w w4) := (HB3.out.alloc HB3.out.size _).grown hg4 (le_box HB3.out.size) (fun a h => (HO3.out.lt a h).1)
     clear ho4 hg4 hl4 HIN
     go_wp2
     go_ret
     exact ⟨_, _, _, rfl, HFIN.out, HBF.out⟩
end Go.Proofs.YtnbekpblmkdnlaaGreatDoor
