/-
  Plain mathematics of plans: what is wrong with deeds that come, that who comes later changes nothing ahead, and that one of those that wait needs nobody.
  slices.Insert over chains, of one chain, into a row that the call owns: the row with the chain at its place; what else there is stays.
-/
import Derived.Test.YtdnafpenljdinadDoorEngFit
import Derived.Test.YtdnafpenljdinadDoorDoMath
import Derived.Test.YtdnafpenljdinadDoorRefKeys
import Derived.Lib.AppendZerosOnto
import Derived.Lib.Overlaps
import Derived.Laws.IdiomCopy
import Derived.Deep.RegionLaw
import Derived.Stop.Walk2
namespace Go.Proofs.YtdnafpenljdinadDoor
open Go.RowKit

/-! ### Deeds that come -/
/-- What is wrong with the first one that is wrong. -/
def wDs : List Deed3 → Int
  | [] => 0
  | d :: l => if wDeed d.1 d.2.1 d.2.2 = 0 then wDs l else wDeed d.1 d.2.1 d.2.2
theorem wDs_right : ∀ {l : List Deed3}, wDs l = 0 → RightDs l
  | [], _, _, h => by cases h
  | d :: l, h, x, hx => by
    rw [wDs] at h
    by_cases h0 : wDeed d.1 d.2.1 d.2.2 = 0
    · rw [if_pos h0] at h
      rcases List.mem_cons.1 hx with rfl | hx
      · exact right_deed h0
      · exact wDs_right h x hx
    · rw [if_neg h0] at h; exact absurd h h0
theorem wDs_of : ∀ {l : List Deed3}, RightDs l → wDs l = 0
  | [], _ => rfl
  | d :: l, h => by
    rw [wDs, if_pos (right_wDeed (h d (by simp)))]
    exact wDs_of (fun x hx => h x (by simp [hx]))
theorem wDs_first : ∀ {l : List Deed3} {j : Nat}, j < l.length → RightDs (l.take j) → wDeed (l.getD j default).1 (l.getD j default).2.1 (l.getD j default).2.2 ≠ 0 → wDs l = wDeed (l.getD j default).1 (l.getD j default).2.1 (l.getD j default).2.2
  | [], _, h, _, _ => absurd h (Nat.not_lt_zero _)
  | d :: l, 0, _, _, h => by
    have h' : wDeed d.1 d.2.1 d.2.2 ≠ 0 := by simpa using h
    rw [wDs, if_neg h']; simp
  | d :: l, j + 1, hj, hr, h => by
    rw [wDs, if_pos (right_wDeed (hr d (by simp)))]
    have := wDs_first (l := l) (j := j) (by simpa using hj) (fun x hx => hr x (by simp [hx])) (by simpa using h)
    simpa using this
theorem rights_next {l : List Deed3} {j : Nat} (hj : j < l.length) (h : RightDs (l.take j)) (h2 : wDeed (l.getD j default).1 (l.getD j default).2.1 (l.getD j default).2.2 = 0) : RightDs (l.take (j + 1)) := fun d hd => by
  rw [take_snoc_getD hj] at hd
  rcases List.mem_append.1 hd with h3 | h3
  · exact h d h3
  · simp only [List.mem_singleton] at h3
    rw [h3]; exact right_deed h2
def zeroEng : Eng := ⟨[], [], [], [], 0⟩
theorem addAll_snoc (e : Eng) (l : List Deed3) (d : Deed3) : addAll e (l ++ [d]) = addD (addAll e l) d := by simp [addAll]
theorem addAll_base (e : Eng) : ∀ l : List Deed3, (addAll e l).base = e.base := fun l => by
  induction l generalizing e with
  | nil => rfl
  | cons d l ih => exact ih (addD e d)
theorem addAll_deeds (e : Eng) : ∀ l : List Deed3, (addAll e l).deeds = e.deeds ++ l := fun l => by
  induction l generalizing e with
  | nil => simp [addAll]
  | cons d l ih =>
    have := ih (addD e d)
    show (addAll (addD e d) l).deeds = _
    rw [this]
    show (e.deeds ++ [d]) ++ l = _
    simp

/-! ### Who comes later changes nothing ahead -/
theorem writes_append_all {D l : List Deed3} {k : ByteArray} {i : Nat} (h : i < D.length) : writes (D ++ l) k i = writes D k i := by
  unfold writes; simp [List.getD, List.getElem?_append_left h]
theorem newsV_ahead {r0 : List Row} {D l : List Deed3} {dn : Nat → Bool} {k : ByteArray} {a n : Nat} (h : a + n ≤ D.length) : newsV r0 (D ++ l) dn k a n = newsV r0 D dn k a n := by
  unfold newsV
  have hf : (List.range' a n).filter (writes (D ++ l) k) = (List.range' a n).filter (writes D k) := by
    refine List.filter_congr fun i hi => ?_
    have := List.mem_range'_1.1 hi
    exact writes_append_all (by omega)
  rw [hf]
  refine List.map_congr_left fun i hi => ?_
  have := List.mem_range'_1.1 (List.mem_filter.1 hi).1
  unfold verI
  rw [seqR_append (by omega)]
theorem before_ahead {r0 : List Row} {D l : List Deed3} {m : Nat} {dn : Nat → Bool} {b : ByteArray → Int} {e x : Eng} (G : Good r0 D m dn b e) (X : Good r0 (D ++ l) m dn b x) {n : Nat} (hn : m + n ≤ D.length) (k : ByteArray) : before x.chains k ((m + n : Nat) : Int) = before e.chains k ((m + n : Nat) : Int) := by
  rw [seen_of G hn k, seen_of X (by simp; omega) k]
  unfold seenV
  rw [newsV_ahead hn]
  congr 1
  unfold oldV
  rw [seqR_append G.le]
theorem needs_ahead {r0 : List Row} {D l : List Deed3} {m : Nat} {dn : Nat → Bool} {b : ByteArray → Int} {e x : Eng} (G : Good r0 D m dn b e) (X : Good r0 (D ++ l) m dn b x) {p : Nat} (hp : m + p < D.length) : needsE x p = needsE e p := by
  unfold needsE
  refine List.filter_congr fun j _ => ?_
  unfold needE
  have hd : x.deeds.getD p default = e.deeds.getD p default := by
    rw [X.deed, G.deed]
    simp [List.getD, List.getElem?_append_left hp]
  rw [hd, X.at_, G.at_, X.at_, G.at_]
  refine congrArg (fun f => List.any (keysD (e.deeds.getD p default)) f) (funext fun k => ?_)
  rw [before_ahead G X (by omega) k]
theorem no_key {L : List Chn} {k : ByteArray} (h : hasKey L k = false) (at_ : Int) : before L k at_ = ver0 := by
  unfold before
  rw [vsOf_noKey h]
  rfl
theorem rowsC_ext {L M : List Chn} {at_ : Int} (hL : SrtC L) (hM : SrtC M) (h : ∀ k, before L k at_ = before M k at_) : rowsC L at_ = rowsC M at_ := by
  have made_key : ∀ {L : List Chn} {k : ByteArray}, (before L k at_).made = false → ∃ c ∈ L, c.1 = k := fun {L k} hm => by
    cases hk : hasKey L k with
    | true =>
      obtain ⟨c, hc, he⟩ := List.any_eq_true.1 hk
      exact ⟨c, hc, of_decide_eq_true he⟩
    | false => rw [no_key hk] at hm; cases hm
  by_cases hall : ∀ k, (before L k at_).made = true
  · obtain ⟨r, e1, i1⟩ := rowsGo_is L at_ L hL (fun c _ => hall c.1)
    obtain ⟨s, e2, i2⟩ := rowsGo_is M at_ M hM (fun c _ => by rw [← h]; exact hall c.1)
    show rowsGo L at_ L = rowsGo M at_ M
    have both : ∀ {L : List Chn} {k : ByteArray}, (hasKey L k && (before L k at_).has_) = (before L k at_).has_ := fun {L k} => by
      cases hk : hasKey L k with
      | true => simp
      | false => rw [no_key hk]; rfl
    rw [e1, e2, srt_ext i1.srt i2.srt (fun k => by rw [i1.is, i2.is, both, both, h]) (fun k => by rw [i1.n, i2.n, both, both, h])]
  · simp only [Classical.not_forall] at hall
    obtain ⟨k, hk⟩ := hall
    have hk' : (before L k at_).made = false := by simpa using hk
    obtain ⟨c, hc, e⟩ := made_key hk'
    have hkM : (before M k at_).made = false := by rw [← h]; exact hk'
    obtain ⟨d, hd, e'⟩ := made_key hkM
    show rowsGo L at_ L = rowsGo M at_ M
    rw [rowsGo_none L at_ L hc (by rw [e]; exact hk'), rowsGo_none M at_ M hd (by rw [e']; exact hkM)]
theorem rows_ahead {r0 : List Row} {D l : List Deed3} {m : Nat} {dn : Nat → Bool} {b : ByteArray → Int} {e x : Eng} (G : Good r0 D m dn b e) (X : Good r0 (D ++ l) m dn b x) {n : Nat} (hn : m + n ≤ D.length) : rowsC x.chains (x.base + n) = rowsC e.chains (e.base + n) := by
  rw [X.at_, G.at_]
  exact rowsC_ext X.srt G.srt (fun k => before_ahead G X hn k)

/-! ### Who waits -/
def waitsTo (e : Eng) (j : Nat) : Bool := (List.range j).any fun p => decide (e.state.getD p 0 = 0)
def freeTo (e : Eng) (j : Nat) : Bool := (List.range j).any fun p => decide (e.state.getD p 0 = 0) && (needsE e p).isEmpty
theorem waitsTo_succ (e : Eng) (j : Nat) : waitsTo e (j + 1) = (waitsTo e j || decide (e.state.getD j 0 = 0)) := by simp [waitsTo, List.range_succ]
theorem freeTo_succ (e : Eng) (j : Nat) : freeTo e (j + 1) = (freeTo e j || (decide (e.state.getD j 0 = 0) && (needsE e j).isEmpty)) := by simp [freeTo, List.range_succ]
theorem one_free {r0 : List Row} {D : List Deed3} {m : Nat} {dn : Nat → Bool} {b : ByteArray → Int} {e : Eng} (G : Good r0 D m dn b e) : (freeTo e e.deeds.length || !waitsTo e e.deeds.length) = true := by
  cases hw : waitsTo e e.deeds.length with
  | false => simp
  | true =>
    obtain ⟨p, hp, h0⟩ := List.any_eq_true.1 hw
    have hpl : p < e.deeds.length := List.mem_range.1 hp
    have hpD : m + p < D.length := by rw [G.len] at hpl; omega
    have hz : dn (m + p) = false := by
      have := of_decide_eq_true h0
      rw [G.state_at hpD] at this
      cases h : dn (m + p) with
      | false => rfl
      | true => rw [h] at this; cases this
    have hne := some_ready G (i := m + p) (by omega) hpD hz
    obtain ⟨q, hq⟩ := List.exists_mem_of_ne_nil _ hne
    unfold readyE at hq
    obtain ⟨q1, q2⟩ := List.mem_filter.1 hq
    have : freeTo e e.deeds.length = true := List.any_eq_true.2 ⟨q, q1, q2⟩
    rw [this]; rfl
theorem need_waits {r0 : List Row} {D : List Deed3} {m : Nat} {dn : Nat → Bool} {b : ByteArray → Int} {e : Eng} (G : Good r0 D m dn b e) {p : Nat} (hp : m + p < D.length) {j : Nat} (hj : j ∈ needsE e p) : j < p ∧ e.state.getD j 0 = 0 := by
  obtain ⟨h1, h2⟩ := need_back G hp hj
  refine ⟨h1, ?_⟩
  rw [G.state_at (by omega), h2]
  rfl

/-! ### What a deed sees is right -/
theorem getD_in {α : Type} [Inhabited α] {l : List α} {j : Nat} (h : j < l.length) : l.getD j default ∈ l := by simp [List.getD, h]
theorem sees_right {r0 : List Row} {D : List Deed3} {m : Nat} {dn : Nat → Bool} {b : ByteArray → Int} {e : Eng} (G : Good r0 D m dn b e) {p : Nat} (hp : m + p < D.length) (hn : needsE e p = []) : ∀ j, Right (((keysD (e.deeds.getD p default)).take j).foldl (seesK e.chains (e.base + p)) []) := by
  have hkey : ∀ k ∈ keysD (e.deeds.getD p default), keyB k = true ∧ ((before e.chains k (e.base + p)).has_ = true → InR (before e.chains k (e.base + p)).n) := fun k hk => by
    have hd := rights_at G.right hp
    rw [G.deed] at hk
    refine ⟨?_, fun _ => ?_⟩
    · rcases keysD_mem.1 hk with h | h
      · exact wKeys_key hd.r h
      · exact wKeys_key hd.w h
    · have hm := (needs_nil G hp).1 hn k hk
      obtain ⟨_, e2⟩ := (G.seen (n := p) (by omega) k).yes hm
      rw [G.at_, e2]
      exact num_inR (seqR_right G.rows G.right _) k
  intro j
  induction j with
  | zero => exact right_of rfl
  | succ j ih =>
    by_cases hj : j < (keysD (e.deeds.getD p default)).length
    · rw [take_snoc_getD hj, List.foldl_append, List.foldl_cons, List.foldl_nil]
      obtain ⟨h1, h2⟩ := hkey ((keysD (e.deeds.getD p default)).getD j default) (getD_in hj)
      unfold seesK
      split
      · rename_i hh
        exact right_ins ih h1 (h2 hh).1 (h2 hh).2
      · exact ih
    · rw [List.take_of_length_le (by omega)]
      rw [List.take_of_length_le (by omega)] at ih
      exact ih
theorem keysD_len {d : Deed3} (h : RightDD d) : (keysD d).length ≤ 10 := by
  rw [← keysP_is (wKeys_nodup h.r) (wKeys_nodup h.w)]
  unfold keysP
  have h1 := wKeys_len h.r
  have h2 := wKeys_len h.w
  have h3 := List.length_filter_le (fun k => !has d.1 k) d.2.1
  rw [List.length_append]
  omega
theorem sees_len (L : List Chn) (at_ : Int) : ∀ (K : List ByteArray) (r : List Row), (K.foldl (seesK L at_) r).length ≤ r.length + K.length
  | [], r => Nat.le_refl _
  | k :: K, r => by
    have h1 := sees_len L at_ K (seesK L at_ r k)
    have h2 : (seesK L at_ r k).length ≤ r.length + 1 := by
      unfold seesK
      split
      · exact ins_length _ _ _
      · omega
    rw [List.foldl_cons, List.length_cons]
    omega
end Go.Proofs.YtdnafpenljdinadDoor

namespace Go.Proofs.YtdnafpenljdinadDoor
open Go.RowKit

/-- copy, of elements of sz cells, into a row of plain memory. -/
theorem run_copyN (w : World) (dT ty elem sz : Nat) (g o dLen dCap : Nat) (a : Addr) (sLen sCap m : Nat) (cur : Array Value) (t : TypeId) (cs : List Value)
    (hu : Tryd.prog.underlying dT = some (.slice elem)) (hs : (Tryd.prog.info? elem).map (·.size) = some sz)
    (hg : w.heap[g]? = some (.cells cur t (0, 0))) (hm : Nat.min sLen dLen = m) (hn : cs.length = m * sz)
    (hsrc : ∀ j v, cs[j]? = some v → w.cell? (a.add j) = some v) (hfit : o + cs.length ≤ cur.size) (h1 : ∀ v ∈ cs, v.oneCell' = true) :
    (Builtin.copy_ #[dT, dT] ty #[.slice (some ⟨g, o, none⟩) dLen dCap, .slice (some a) sLen sCap]).run Tryd.prog w =
      .ok (goInt m) (w.setRow g (cur.toList.take o ++ cs ++ cur.toList.drop (o + cs.length)).toArray) := by
  have hst := run_storeCells_at Tryd.prog g o t cs 0 cur w hg (by simpa using hfit) h1
  simp only [Nat.add_zero] at hst
  cases hq : Tryd.prog.info? elem with
  | none => simp [hq] at hs
  | some i =>
    have hi : i.size = sz := by simpa [hq] using hs
    have hf := run_firstCells_some (P := Tryd.prog) w sz m a sLen sCap cs hn hsrc
    simp [Builtin.copy_, run_underlying hu, Builtin.lenOf, sizeOf, typeInfo, hq, hi, hm, hf, hst]
theorem grown_setRow (w : World) (g : Nat) (cs : Array Value) : w.grownBy (w.setRow g cs) (some g) := ⟨rfl, rfl, rfl, by simp, fun k _ hk => setRow_other w g k _ (fun e => hk (by rw [e]))⟩
theorem run_copyX (w : World) (dT ty elem sz : Nat) (g o dLen dCap : Nat) (a : Addr) (sLen sCap m : Nat) (cur : Array Value) (t : TypeId) (cs : List Value)
    (hu : Tryd.prog.underlying dT = some (.slice elem)) (hs : (Tryd.prog.info? elem).map (·.size) = some sz)
    (hg : w.heap[g]? = some (.cells cur t (0, 0))) (hm : Nat.min sLen dLen = m) (hn : cs.length = m * sz)
    (hsrc : ∀ j v, cs[j]? = some v → w.cell? (a.add j) = some v) (hfit : o + cs.length ≤ cur.size) (h1 : ∀ v ∈ cs, v.oneCell' = true) :
    ∃ w', (Builtin.copy_ #[dT, dT] ty #[.slice (some ⟨g, o, none⟩) dLen dCap, .slice (some a) sLen sCap]).run Tryd.prog w = .ok (goInt m) w' ∧
      w'.heap[g]? = some (.cells (cur.toList.take o ++ cs ++ cur.toList.drop (o + cs.length)).toArray t (0, 0)) ∧ w.grownBy w' (some g) :=
  ⟨_, run_copyN w dT ty elem sz g o dLen dCap a sLen sCap m cur t cs hu hs hg hm hn hsrc hfit h1, setRow_heap w g cur _ t _ hg, grown_setRow _ _ _⟩
theorem wpList_copyN (w : World) {ops : Array Oper} {rest : List Oper} {o : Oper} {a : Act} {Q : Exit → Act → World → Prop} (hgd : o.guard = none) (d s : Operand) (dT elem sz : Nat)
    (ho : o.op = .call { callee := .builtin .copy, args := #[d, s], argTypes := #[dT, dT] }) (hu : Tryd.prog.underlying dT = some (.slice elem)) (hs : (Tryd.prog.info? elem).map (·.size) = some sz)
    (g off dLen dCap : Nat) (ad : Addr) (sLen sCap m : Nat) (cur : Array Value) (t : TypeId) (cs : List Value) (hd : a.eval d = .slice (some ⟨g, off, none⟩) dLen dCap) (hx : a.eval s = .slice (some ad) sLen sCap)
    (hg : w.heap[g]? = some (.cells cur t (0, 0))) (hm : Nat.min sLen dLen = m) (hn : cs.length = m * sz) (hsrc : ∀ j v, cs[j]? = some v → w.cell? (ad.add j) = some v) (hfit : off + cs.length ≤ cur.size) (h1 : ∀ v ∈ cs, v.oneCell' = true)
    (h : ∀ w', w'.heap[g]? = some (.cells (cur.toList.take off ++ cs ++ cur.toList.drop (off + cs.length)).toArray t (0, 0)) → w.grownBy w' (some g) → wpList Tryd.prog ops Q rest (a.put o.dst (goInt m)) w') : wpList Tryd.prog ops Q (o :: rest) a w := by
  refine wpList_plain hgd fun K hK => ?_
  have hrun := fun ty => run_copyN w dT ty elem sz g off dLen dCap ad sLen sCap m cur t cs hu hs hg hm hn hsrc hfit h1
  unfold Oper.wp execOp
  simp only [ho, resolve, invoke, builtin, Sem.run_bind, Sem.run_pure, Result.andThen_ok, List.map_toArray, List.map_cons, List.map_nil, hd, hx, hrun]
  exact hK _ _ (h _ (setRow_heap w g cur _ t _ hg) (grown_setRow _ _ _))
theorem step_copyN (w : World) {ops : Array Oper} {o : Oper} {a : Act} {K : Act → World → Prop} {Q : Exit → Act → World → Prop} {E : Prop} (hgd : o.guard = none) (d s : Operand) (dT elem sz : Nat)
    (ho : o.op = .call { callee := .builtin .copy, args := #[d, s], argTypes := #[dT, dT] }) (hu : Tryd.prog.underlying dT = some (.slice elem)) (hs : (Tryd.prog.info? elem).map (·.size) = some sz)
    (g off dLen dCap : Nat) (ad : Addr) (sLen sCap m : Nat) (cur : Array Value) (t : TypeId) (cs : List Value) (hd : a.eval d = .slice (some ⟨g, off, none⟩) dLen dCap) (hx : a.eval s = .slice (some ad) sLen sCap)
    (hg : w.heap[g]? = some (.cells cur t (0, 0))) (hm : Nat.min sLen dLen = m) (hn : cs.length = m * sz) (hsrc : ∀ j v, cs[j]? = some v → w.cell? (ad.add j) = some v) (hfit : off + cs.length ≤ cur.size) (h1 : ∀ v ∈ cs, v.oneCell' = true)
    (h : ∀ w', w'.heap[g]? = some (.cells (cur.toList.take off ++ cs ++ cur.toList.drop (off + cs.length)).toArray t (0, 0)) → w.grownBy w' (some g) → K (a.put o.dst (goInt m)) w') :
    if Region.wanted o (yielded ops a.tmps) = true then Oper.wp Tryd.prog o a w K Q else E := by
  have hw : Region.wanted o (yielded ops a.tmps) = true := by simp [Region.wanted, hgd]
  rw [if_pos hw]
  have hrun := fun ty => run_copyN w dT ty elem sz g off dLen dCap ad sLen sCap m cur t cs hu hs hg hm hn hsrc hfit h1
  unfold Oper.wp execOp
  simp only [ho, resolve, invoke, builtin, Sem.run_bind, Sem.run_pure, Result.andThen_ok, List.map_toArray, List.map_cons, List.map_nil, hd, hx, hrun]
  exact h _ (setRow_heap w g cur _ t _ hg) (grown_setRow _ _ _)

/-! ### The row with one more in its midst -/
theorem flat_take {α : Type} {f : α → List Value} {k : Nat} (hk : ∀ x, (f x).length = k) : ∀ (l : List α) (i : Nat), flat f (l.take i) = (flat f l).take (i * k)
  | [], i => by simp [flat]
  | x :: l, 0 => by simp [flat]
  | x :: l, i + 1 => by
    have e : (i + 1) * k = (f x).length + i * k := by rw [hk, Nat.add_mul, Nat.one_mul, Nat.add_comm]
    rw [List.take_succ_cons, flat_cons, flat_cons, flat_take hk l i, e, List.take_length_add_append]
theorem flat_drop {α : Type} {f : α → List Value} {k : Nat} (hk : ∀ x, (f x).length = k) : ∀ (l : List α) (i : Nat), flat f (l.drop i) = (flat f l).drop (i * k)
  | [], i => by simp [flat]
  | x :: l, 0 => by simp
  | x :: l, i + 1 => by
    have e : (i + 1) * k = (f x).length + i * k := by rw [hk, Nat.add_mul, Nat.one_mul, Nat.add_comm]
    rw [List.drop_succ_cons, flat_cons, flat_drop hk l i, e, List.drop_length_add_append]
/-- First what is behind moves on, then the new one comes. -/
theorem shift_list {X F E : List Value} {i n s cap : Nat} (hF : X.take (n * s) = F) (hX : X.length = cap * s) (hi : i ≤ n) (hc : n + 1 ≤ cap) (hE : E.length = s) :
    (((X.take ((i + 1) * s) ++ F.drop (i * s) ++ X.drop ((i + 1) * s + (F.drop (i * s)).length)).take (i * s) ++ E ++ (X.take ((i + 1) * s) ++ F.drop (i * s) ++ X.drop ((i + 1) * s + (F.drop (i * s)).length)).drop (i * s + E.length))).take ((n + 1) * s) = F.take (i * s) ++ E ++ F.drop (i * s) := by
  have h1 : i * s ≤ n * s := Nat.mul_le_mul_right _ hi
  have h2 : (n + 1) * s ≤ cap * s := Nat.mul_le_mul_right _ hc
  have e1 : (i + 1) * s = i * s + s := by rw [Nat.add_mul, Nat.one_mul]
  have e2 : (n + 1) * s = n * s + s := by rw [Nat.add_mul, Nat.one_mul]
  have hFl : F.length = n * s := by rw [← hF, List.length_take]; omega
  have hta : (X.take ((i + 1) * s)).length = i * s + s := by rw [List.length_take]; omega
  have hd1 : (X.take ((i + 1) * s) ++ F.drop (i * s) ++ X.drop ((i + 1) * s + (F.drop (i * s)).length)).take (i * s) = F.take (i * s) := by
    rw [List.append_assoc, List.take_append_of_le_length (by rw [hta]; omega), List.take_take, ← hF, List.take_take]
    congr 1
    omega
  have hd2 : (X.take ((i + 1) * s) ++ F.drop (i * s) ++ X.drop ((i + 1) * s + (F.drop (i * s)).length)).drop (i * s + E.length) = F.drop (i * s) ++ X.drop ((i + 1) * s + (F.drop (i * s)).length) := by
    rw [hE, List.append_assoc, ← hta, List.drop_left]
  rw [hd1, hd2, ← List.append_assoc]
  rw [List.take_append_of_le_length]
  · rw [List.take_of_length_le]
    simp only [List.length_append, List.length_take, List.length_drop, hE, hFl]
    omega
  · simp only [List.length_append, List.length_take, List.length_drop, hE, hFl]
    omega
/-- First the new one comes, then what is behind. -/
theorem grow_list {R F E : List Value} {i n s : Nat} (hR : R.take (i * s) = F.take (i * s)) (hFl : F.length = n * s) (hi : i ≤ n) (hE : E.length = s) :
    (((R.take (i * s) ++ E ++ R.drop (i * s + E.length)).take ((i + 1) * s) ++ F.drop (i * s) ++ (R.take (i * s) ++ E ++ R.drop (i * s + E.length)).drop ((i + 1) * s + (F.drop (i * s)).length))).take ((n + 1) * s) = F.take (i * s) ++ E ++ F.drop (i * s) := by
  have h1 : i * s ≤ n * s := Nat.mul_le_mul_right _ hi
  have e1 : (i + 1) * s = i * s + s := by rw [Nat.add_mul, Nat.one_mul]
  have e2 : (n + 1) * s = n * s + s := by rw [Nat.add_mul, Nat.one_mul]
  have hft : (F.take (i * s)).length = i * s := by rw [List.length_take]; omega
  have hd1 : (R.take (i * s) ++ E ++ R.drop (i * s + E.length)).take ((i + 1) * s) = F.take (i * s) ++ E := by
    rw [hR, List.take_append_of_le_length (by rw [List.length_append, hft, hE]; omega), List.take_of_length_le]
    rw [List.length_append, hft, hE]; omega
  rw [hd1]
  rw [List.take_append_of_le_length]
  · rw [List.take_of_length_le]
    simp only [List.length_append, List.length_take, List.length_drop, hE, hFl]
    omega
  · simp only [List.length_append, List.length_take, List.length_drop, hE, hFl]
    omega
theorem chnSize : (Tryd.prog.info? 59).map (·.size) = some 2 := by kernel_rfl
theorem chnSizeOf (w : World) : (Go.sizeOf 59).run Tryd.prog w = .ok 2 w := by kernel_rfl
/-- What came to a row: a chain at its place. -/
def Inserted (W w2 : World) (B n i : Nat) (v v2 : Value) (S : List Slot) (s : Slot) : Prop := w2.ownsRow B 59 2 v2 (n + 1) (flat slotC (S.take i ++ s :: S.drop i)) ∧ W.grownBy w2 v.ownBlock

theorem shape_block {w : World} {g : Nat} {cur : Array Value} {t : TypeId} {fr : Nat × Nat} (h : w.heap[g]? = some (.cells cur t fr)) : w.shape? g = some (t, cur.size) := by simp [World.shape?, h]
theorem cell_block {w : World} {g j : Nat} {cur : Array Value} {t : TypeId} {fr : Nat × Nat} (h : w.heap[g]? = some (.cells cur t fr)) {u : Value} (hu : cur[j]? = some u) : w.cell? ⟨g, j, none⟩ = some u := by simp [World.cell?, h, hu]

/-- append of k zero values onto what has no room for them: a new row. -/
theorem wpList_zeros (w : World) {ops : Array Oper} {rest : List Oper} {o : Oper} {a : Act} {Q : Exit → Act → World → Prop} (hgd : o.guard = none) (s x : Operand) (t tn e sz bytes : Nat) (z : Value)
    (hu : Tryd.prog.underlying t = some (.slice e)) (hun : Tryd.prog.underlying tn = some (.int .i64)) (hinfo : (Tryd.prog.info? e).map (fun i => (i.zero, i.size, i.bytes)) = some (some z, sz, bytes)) (hsz : 0 < sz)
    (ho : o.op = .call { callee := .builtin .append, args := #[s, x], argTypes := #[t, tn] }) (base : Option Addr) (i c k : Nat) (K : Int) (hs : a.eval s = .slice base i c) (hx : a.eval x = .int .i64 K) (hK : K = (k : Int))
    (olds : List Value) (hold : (Builtin.firstCells sz i (.slice base i c)).run Tryd.prog w.drew = .ok olds.toArray w.drew) (h0 : 0 < k) (hc : c < i + k) (hby : 0 < bytes) (hb : (i + k) * bytes ≤ 140737488355328)
    (h : ∀ w' G ROW, w'.heap[w.heap.size]? = some (.cells (olds ++ ROW).toArray e (0, 0)) → ROW.length = (G - i) * z.cells.size → i + k ≤ G → G ≤ maxLen → w.grownBy w' none → wpList Tryd.prog ops Q rest (a.put o.dst (.slice (some ⟨w.heap.size, 0, none⟩) (i + k) G)) w') : wpList Tryd.prog ops Q (o :: rest) a w := by
  obtain ⟨i0, hi, hz0, hz1, hz2⟩ := info_parts hinfo
  subst hz1
  subst hz2
  have hik : i + k ≤ 140737488355328 := Nat.le_trans (Nat.le_mul_of_pos_right _ hby) hb
  have hkb : k * i0.bytes ≤ (i + k) * i0.bytes := Nat.mul_le_mul_right _ (by omega)
  have hrun := Lib.run_append_grow_zeros (P := Tryd.prog) w t tn o.type e i0 z .i64 .i64 hu hun hi hz0 base i c olds hold k h0 hsz hc (by omega) (by omega) (growslice_fits hc hb)
  subst hK
  have hG := grownCap_ge w (i + k) c e
  have hM := grownCap_le_maxLen w (i + k) c e (by unfold maxLen; omega)
  generalize grownCap w (i + k) c e = G at *
  have hfin := h (w.drew.alloc (.cells (olds.toArray ++ Builtin.zeroCells z.cells k ++ Builtin.zeroCells z.cells (G - (i + k))) e)) G ((Builtin.zeroCells z.cells k).toList ++ (Builtin.zeroCells z.cells (G - (i + k))).toList)
    (by
      have := heap_alloc_new w.drew (.cells (olds.toArray ++ Builtin.zeroCells z.cells k ++ Builtin.zeroCells z.cells (G - (i + k))) e)
      rw [show w.heap.size = w.drew.heap.size from rfl, this]
      simp)
    (by
      have e1 : k + (G - (i + k)) = G - i := by omega
      rw [List.length_append, Array.length_toList, Array.length_toList, size_zeroCells, size_zeroCells, ← Nat.add_mul, e1])
    hG hM ⟨rfl, rfl, rfl, by show w.drew.heap.size ≤ _; rw [World.size_alloc]; omega, fun j hj _ => Below.heap_alloc w.drew _ j hj⟩
  refine wpList_plain hgd fun KK hKK => ?_
  unfold Oper.wp execOp
  simp only [ho, resolve, invoke, builtin, Sem.run_bind, Sem.run_pure, Result.andThen_ok, List.map_toArray, List.map_cons, List.map_nil, hs, hx, hrun]
  exact hKK _ _ hfin
end Go.Proofs.YtdnafpenljdinadDoor
