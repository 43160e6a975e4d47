/-
  slices.Insert over chains, of one chain, into a row that the call owns: the row with the chain at its place; what else there is stays.
-/
import Derived.Test.YtdnafpenljdinadRefKeys
import Derived.Lib.AppendZerosOnto
import Derived.Lib.Overlaps
import Derived.Laws.IdiomCopy
import Derived.Deep.RegionLaw
import Derived.Stop.Walk2
namespace Go.Proofs.Ytdnafpenljdinad
open Go.RowKit

/-- copy, of elements of sz cells, into a row of plain memory. -/
theorem run_copyN (w : World) (dT ty elem sz : Nat) (g o dLen dCap : Nat) (a : Addr) (sLen sCap m : Nat) (cur : Array Value) (t : TypeId) (cs : List Value)
    (hu : Try.prog.underlying dT = some (.slice elem)) (hs : (Try.prog.info? elem).map (·.size) = some sz)
    (hg : w.heap[g]? = some (.cells cur t (0, 0))) (hm : Nat.min sLen dLen = m) (hn : cs.length = m * sz)
    (hsrc : ∀ j v, cs[j]? = some v → w.cell? (a.add j) = some v) (hfit : o + cs.length ≤ cur.size) (h1 : ∀ v ∈ cs, v.oneCell' = true) :
    (Builtin.copy_ #[dT, dT] ty #[.slice (some ⟨g, o, none⟩) dLen dCap, .slice (some a) sLen sCap]).run Try.prog w =
      .ok (goInt m) (w.setRow g (cur.toList.take o ++ cs ++ cur.toList.drop (o + cs.length)).toArray) := by
  have hst := run_storeCells_at Try.prog g o t cs 0 cur w hg (by simpa using hfit) h1
  simp only [Nat.add_zero] at hst
  cases hq : Try.prog.info? elem with
  | none => simp [hq] at hs
  | some i =>
    have hi : i.size = sz := by simpa [hq] using hs
    have hf := run_firstCells_some (P := Try.prog) w sz m a sLen sCap cs hn hsrc
    simp [Builtin.copy_, run_underlying hu, Builtin.lenOf, sizeOf, typeInfo, hq, hi, hm, hf, hst]
theorem grown_setRow (w : World) (g : Nat) (cs : Array Value) : w.grownBy (w.setRow g cs) (some g) := ⟨rfl, rfl, rfl, by simp, fun k _ hk => setRow_other w g k _ (fun e => hk (by rw [e]))⟩
theorem run_copyX (w : World) (dT ty elem sz : Nat) (g o dLen dCap : Nat) (a : Addr) (sLen sCap m : Nat) (cur : Array Value) (t : TypeId) (cs : List Value)
    (hu : Try.prog.underlying dT = some (.slice elem)) (hs : (Try.prog.info? elem).map (·.size) = some sz)
    (hg : w.heap[g]? = some (.cells cur t (0, 0))) (hm : Nat.min sLen dLen = m) (hn : cs.length = m * sz)
    (hsrc : ∀ j v, cs[j]? = some v → w.cell? (a.add j) = some v) (hfit : o + cs.length ≤ cur.size) (h1 : ∀ v ∈ cs, v.oneCell' = true) :
    ∃ w', (Builtin.copy_ #[dT, dT] ty #[.slice (some ⟨g, o, none⟩) dLen dCap, .slice (some a) sLen sCap]).run Try.prog w = .ok (goInt m) w' ∧
      w'.heap[g]? = some (.cells (cur.toList.take o ++ cs ++ cur.toList.drop (o + cs.length)).toArray t (0, 0)) ∧ w.grownBy w' (some g) :=
  ⟨_, run_copyN w dT ty elem sz g o dLen dCap a sLen sCap m cur t cs hu hs hg hm hn hsrc hfit h1, setRow_heap w g cur _ t _ hg, grown_setRow _ _ _⟩
theorem wpList_copyN (w : World) {ops : Array Oper} {rest : List Oper} {o : Oper} {a : Act} {Q : Exit → Act → World → Prop} (hgd : o.guard = none) (d s : Operand) (dT elem sz : Nat)
    (ho : o.op = .call { callee := .builtin .copy, args := #[d, s], argTypes := #[dT, dT] }) (hu : Try.prog.underlying dT = some (.slice elem)) (hs : (Try.prog.info? elem).map (·.size) = some sz)
    (g off dLen dCap : Nat) (ad : Addr) (sLen sCap m : Nat) (cur : Array Value) (t : TypeId) (cs : List Value) (hd : a.eval d = .slice (some ⟨g, off, none⟩) dLen dCap) (hx : a.eval s = .slice (some ad) sLen sCap)
    (hg : w.heap[g]? = some (.cells cur t (0, 0))) (hm : Nat.min sLen dLen = m) (hn : cs.length = m * sz) (hsrc : ∀ j v, cs[j]? = some v → w.cell? (ad.add j) = some v) (hfit : off + cs.length ≤ cur.size) (h1 : ∀ v ∈ cs, v.oneCell' = true)
    (h : ∀ w', w'.heap[g]? = some (.cells (cur.toList.take off ++ cs ++ cur.toList.drop (off + cs.length)).toArray t (0, 0)) → w.grownBy w' (some g) → wpList Try.prog ops Q rest (a.put o.dst (goInt m)) w') : wpList Try.prog ops Q (o :: rest) a w := by
  refine wpList_plain hgd fun K hK => ?_
  have hrun := fun ty => run_copyN w dT ty elem sz g off dLen dCap ad sLen sCap m cur t cs hu hs hg hm hn hsrc hfit h1
  unfold Oper.wp execOp
  simp only [ho, resolve, invoke, builtin, Sem.run_bind, Sem.run_pure, Result.andThen_ok, List.map_toArray, List.map_cons, List.map_nil, hd, hx, hrun]
  exact hK _ _ (h _ (setRow_heap w g cur _ t _ hg) (grown_setRow _ _ _))
theorem step_copyN (w : World) {ops : Array Oper} {o : Oper} {a : Act} {K : Act → World → Prop} {Q : Exit → Act → World → Prop} {E : Prop} (hgd : o.guard = none) (d s : Operand) (dT elem sz : Nat)
    (ho : o.op = .call { callee := .builtin .copy, args := #[d, s], argTypes := #[dT, dT] }) (hu : Try.prog.underlying dT = some (.slice elem)) (hs : (Try.prog.info? elem).map (·.size) = some sz)
    (g off dLen dCap : Nat) (ad : Addr) (sLen sCap m : Nat) (cur : Array Value) (t : TypeId) (cs : List Value) (hd : a.eval d = .slice (some ⟨g, off, none⟩) dLen dCap) (hx : a.eval s = .slice (some ad) sLen sCap)
    (hg : w.heap[g]? = some (.cells cur t (0, 0))) (hm : Nat.min sLen dLen = m) (hn : cs.length = m * sz) (hsrc : ∀ j v, cs[j]? = some v → w.cell? (ad.add j) = some v) (hfit : off + cs.length ≤ cur.size) (h1 : ∀ v ∈ cs, v.oneCell' = true)
    (h : ∀ w', w'.heap[g]? = some (.cells (cur.toList.take off ++ cs ++ cur.toList.drop (off + cs.length)).toArray t (0, 0)) → w.grownBy w' (some g) → K (a.put o.dst (goInt m)) w') :
    if Region.wanted o (yielded ops a.tmps) = true then Oper.wp Try.prog o a w K Q else E := by
  have hw : Region.wanted o (yielded ops a.tmps) = true := by simp [Region.wanted, hgd]
  rw [if_pos hw]
  have hrun := fun ty => run_copyN w dT ty elem sz g off dLen dCap ad sLen sCap m cur t cs hu hs hg hm hn hsrc hfit h1
  unfold Oper.wp execOp
  simp only [ho, resolve, invoke, builtin, Sem.run_bind, Sem.run_pure, Result.andThen_ok, List.map_toArray, List.map_cons, List.map_nil, hd, hx, hrun]
  exact h _ (setRow_heap w g cur _ t _ hg) (grown_setRow _ _ _)

/-! ### The row with one more in its midst -/
theorem flat_take {α : Type} {f : α → List Value} {k : Nat} (hk : ∀ x, (f x).length = k) : ∀ (l : List α) (i : Nat), flat f (l.take i) = (flat f l).take (i * k)
  | [], i => by simp [flat]
  | x :: l, 0 => by simp [flat]
  | x :: l, i + 1 => by
    have e : (i + 1) * k = (f x).length + i * k := by rw [hk, Nat.add_mul, Nat.one_mul, Nat.add_comm]
    rw [List.take_succ_cons, flat_cons, flat_cons, flat_take hk l i, e, List.take_length_add_append]
theorem flat_drop {α : Type} {f : α → List Value} {k : Nat} (hk : ∀ x, (f x).length = k) : ∀ (l : List α) (i : Nat), flat f (l.drop i) = (flat f l).drop (i * k)
  | [], i => by simp [flat]
  | x :: l, 0 => by simp
  | x :: l, i + 1 => by
    have e : (i + 1) * k = (f x).length + i * k := by rw [hk, Nat.add_mul, Nat.one_mul, Nat.add_comm]
    rw [List.drop_succ_cons, flat_cons, flat_drop hk l i, e, List.drop_length_add_append]
/-- First what is behind moves on, then the new one comes. -/
theorem shift_list {X F E : List Value} {i n s cap : Nat} (hF : X.take (n * s) = F) (hX : X.length = cap * s) (hi : i ≤ n) (hc : n + 1 ≤ cap) (hE : E.length = s) :
    (((X.take ((i + 1) * s) ++ F.drop (i * s) ++ X.drop ((i + 1) * s + (F.drop (i * s)).length)).take (i * s) ++ E ++ (X.take ((i + 1) * s) ++ F.drop (i * s) ++ X.drop ((i + 1) * s + (F.drop (i * s)).length)).drop (i * s + E.length))).take ((n + 1) * s) = F.take (i * s) ++ E ++ F.drop (i * s) := by
  have h1 : i * s ≤ n * s := Nat.mul_le_mul_right _ hi
  have h2 : (n + 1) * s ≤ cap * s := Nat.mul_le_mul_right _ hc
  have e1 : (i + 1) * s = i * s + s := by rw [Nat.add_mul, Nat.one_mul]
  have e2 : (n + 1) * s = n * s + s := by rw [Nat.add_mul, Nat.one_mul]
  have hFl : F.length = n * s := by rw [← hF, List.length_take]; omega
  have hta : (X.take ((i + 1) * s)).length = i * s + s := by rw [List.length_take]; omega
  have hd1 : (X.take ((i + 1) * s) ++ F.drop (i * s) ++ X.drop ((i + 1) * s + (F.drop (i * s)).length)).take (i * s) = F.take (i * s) := by
    rw [List.append_assoc, List.take_append_of_le_length (by rw [hta]; omega), List.take_take, ← hF, List.take_take]
    congr 1
    omega
  have hd2 : (X.take ((i + 1) * s) ++ F.drop (i * s) ++ X.drop ((i + 1) * s + (F.drop (i * s)).length)).drop (i * s + E.length) = F.drop (i * s) ++ X.drop ((i + 1) * s + (F.drop (i * s)).length) := by
    rw [hE, List.append_assoc, ← hta, List.drop_left]
  rw [hd1, hd2, ← List.append_assoc]
  rw [List.take_append_of_le_length]
  · rw [List.take_of_length_le]
    simp only [List.length_append, List.length_take, List.length_drop, hE, hFl]
    omega
  · simp only [List.length_append, List.length_take, List.length_drop, hE, hFl]
    omega
/-- First the new one comes, then what is behind. -/
theorem grow_list {R F E : List Value} {i n s : Nat} (hR : R.take (i * s) = F.take (i * s)) (hFl : F.length = n * s) (hi : i ≤ n) (hE : E.length = s) :
    (((R.take (i * s) ++ E ++ R.drop (i * s + E.length)).take ((i + 1) * s) ++ F.drop (i * s) ++ (R.take (i * s) ++ E ++ R.drop (i * s + E.length)).drop ((i + 1) * s + (F.drop (i * s)).length))).take ((n + 1) * s) = F.take (i * s) ++ E ++ F.drop (i * s) := by
  have h1 : i * s ≤ n * s := Nat.mul_le_mul_right _ hi
  have e1 : (i + 1) * s = i * s + s := by rw [Nat.add_mul, Nat.one_mul]
  have e2 : (n + 1) * s = n * s + s := by rw [Nat.add_mul, Nat.one_mul]
  have hft : (F.take (i * s)).length = i * s := by rw [List.length_take]; omega
  have hd1 : (R.take (i * s) ++ E ++ R.drop (i * s + E.length)).take ((i + 1) * s) = F.take (i * s) ++ E := by
    rw [hR, List.take_append_of_le_length (by rw [List.length_append, hft, hE]; omega), List.take_of_length_le]
    rw [List.length_append, hft, hE]; omega
  rw [hd1]
  rw [List.take_append_of_le_length]
  · rw [List.take_of_length_le]
    simp only [List.length_append, List.length_take, List.length_drop, hE, hFl]
    omega
  · simp only [List.length_append, List.length_take, List.length_drop, hE, hFl]
    omega
theorem chnSize : (Try.prog.info? 36).map (·.size) = some 2 := by kernel_rfl
theorem chnSizeOf (w : World) : (Go.sizeOf 36).run Try.prog w = .ok 2 w := by kernel_rfl
/-- What came to a row: a chain at its place. -/
def Inserted (W w2 : World) (B n i : Nat) (v v2 : Value) (S : List Slot) (s : Slot) : Prop := w2.ownsRow B 36 2 v2 (n + 1) (flat slotC (S.take i ++ s :: S.drop i)) ∧ W.grownBy w2 v.ownBlock

theorem shape_block {w : World} {g : Nat} {cur : Array Value} {t : TypeId} {fr : Nat × Nat} (h : w.heap[g]? = some (.cells cur t fr)) : w.shape? g = some (t, cur.size) := by simp [World.shape?, h]
theorem cell_block {w : World} {g j : Nat} {cur : Array Value} {t : TypeId} {fr : Nat × Nat} (h : w.heap[g]? = some (.cells cur t fr)) {u : Value} (hu : cur[j]? = some u) : w.cell? ⟨g, j, none⟩ = some u := by simp [World.cell?, h, hu]

/-- append of k zero values onto what has no room for them: a new row. -/
theorem wpList_zeros (w : World) {ops : Array Oper} {rest : List Oper} {o : Oper} {a : Act} {Q : Exit → Act → World → Prop} (hgd : o.guard = none) (s x : Operand) (t tn e sz bytes : Nat) (z : Value)
    (hu : Try.prog.underlying t = some (.slice e)) (hun : Try.prog.underlying tn = some (.int .i64)) (hinfo : (Try.prog.info? e).map (fun i => (i.zero, i.size, i.bytes)) = some (some z, sz, bytes)) (hsz : 0 < sz)
    (ho : o.op = .call { callee := .builtin .append, args := #[s, x], argTypes := #[t, tn] }) (base : Option Addr) (i c k : Nat) (K : Int) (hs : a.eval s = .slice base i c) (hx : a.eval x = .int .i64 K) (hK : K = (k : Int))
    (olds : List Value) (hold : (Builtin.firstCells sz i (.slice base i c)).run Try.prog w.drew = .ok olds.toArray w.drew) (h0 : 0 < k) (hc : c < i + k) (hby : 0 < bytes) (hb : (i + k) * bytes ≤ 140737488355328)
    (h : ∀ w' G ROW, w'.heap[w.heap.size]? = some (.cells (olds ++ ROW).toArray e (0, 0)) → ROW.length = (G - i) * z.cells.size → i + k ≤ G → G ≤ maxLen → w.grownBy w' none → wpList Try.prog ops Q rest (a.put o.dst (.slice (some ⟨w.heap.size, 0, none⟩) (i + k) G)) w') : wpList Try.prog ops Q (o :: rest) a w := by
  obtain ⟨i0, hi, hz0, hz1, hz2⟩ := info_parts hinfo
  subst hz1
  subst hz2
  have hik : i + k ≤ 140737488355328 := Nat.le_trans (Nat.le_mul_of_pos_right _ hby) hb
  have hkb : k * i0.bytes ≤ (i + k) * i0.bytes := Nat.mul_le_mul_right _ (by omega)
  have hrun := Lib.run_append_grow_zeros (P := Try.prog) w t tn o.type e i0 z .i64 .i64 hu hun hi hz0 base i c olds hold k h0 hsz hc (by omega) (by omega) (growslice_fits hc hb)
  subst hK
  have hG := grownCap_ge w (i + k) c e
  have hM := grownCap_le_maxLen w (i + k) c e (by unfold maxLen; omega)
  generalize grownCap w (i + k) c e = G at *
  have hfin := h (w.drew.alloc (.cells (olds.toArray ++ Builtin.zeroCells z.cells k ++ Builtin.zeroCells z.cells (G - (i + k))) e)) G ((Builtin.zeroCells z.cells k).toList ++ (Builtin.zeroCells z.cells (G - (i + k))).toList)
    (by
      have := heap_alloc_new w.drew (.cells (olds.toArray ++ Builtin.zeroCells z.cells k ++ Builtin.zeroCells z.cells (G - (i + k))) e)
      rw [show w.heap.size = w.drew.heap.size from rfl, this]
      simp)
    (by
      have e1 : k + (G - (i + k)) = G - i := by omega
      rw [List.length_append, Array.length_toList, Array.length_toList, size_zeroCells, size_zeroCells, ← Nat.add_mul, e1])
    hG hM ⟨rfl, rfl, rfl, by show w.drew.heap.size ≤ _; rw [World.size_alloc]; omega, fun j hj _ => Below.heap_alloc w.drew _ j hj⟩
  refine wpList_plain hgd fun KK hKK => ?_
  unfold Oper.wp execOp
  simp only [ho, resolve, invoke, builtin, Sem.run_bind, Sem.run_pure, Result.andThen_ok, List.map_toArray, List.map_cons, List.map_nil, hs, hx, hrun]
  exact hKK _ _ hfin
end Go.Proofs.Ytdnafpenljdinad
