/-
  Plain mathematics of deeds that are done one by one on rows: what keys have then, that rows stay right, and that deeds which share nothing may go in either order.
  What it means that a slice in memory holds deeds, and ends of deeds.
  How an argument that is deeds is read: each one's three slices lie there.
-/
import Derived.Test.YtagangiilcicpaeGreatDoorDoMath
import Derived.Test.YtagangiilcicpaeGreatDoorTextBack
namespace Go.Proofs.YtagangiilcicpaeGreatDoor
open Go.RowKit

/-- A deed: what it reads, what it writes, its instructions. -/
abbrev Deed3 := List ByteArray × List ByteArray × List Ins
/-- How a deed ends: whether it failed, and its registers. -/
abbrev End3 := Bool × (Nat → Int)
def exD (l : List Row) (d : Deed3) : (Nat → Int) × Made × Bool := exec (fun k => num k l) d.2.2 0 zeroR zeroM
def doD (l : List Row) (d : Deed3) : List Row := if (exD l d).2.2 = true then l else (vers (exD l d).2.1 d.2.1).foldl putOne l
def endD (l : List Row) (d : Deed3) : End3 := ((exD l d).2.2, (exD l d).1)
def allD : List Row → List Deed3 → List Row
  | l, [] => l
  | l, d :: ds => allD (doD l d) ds
def RightDD (d : Deed3) : Prop := RightD d.1 d.2.1 d.2.2

/-! ### What keys have -/
theorem exD_keys {l : List Row} {d : Deed3} (h : RightDD d) : ∀ k, ((exD l d).2.1 k).isSome = true → k ∈ d.2.1 :=
  exec_keys _ d.2.1 d.2.2 0 zeroR zeroM (right_keys h) (fun k hk => by simp [zeroM] at hk)
theorem doD_fail {l : List Row} {d : Deed3} (h : (exD l d).2.2 = true) : doD l d = l := if_pos h
theorem doD_over {l : List Row} {d : Deed3} (hs : Srt l) (hd : RightDD d) (h : (exD l d).2.2 = false) : Over (doD l d) l (exD l d).2.1 := by
  have e : doD l d = (vers (exD l d).2.1 d.2.1).foldl putOne l := if_neg (by rw [h]; simp)
  have h1 := over_foldl (vers (exD l d).2.1 d.2.1) l l (fun _ => none) (Over.start hs)
  have e2 : madeOf (vers (exD l d).2.1 d.2.1) (fun _ => none) = (exD l d).2.1 := by
    funext k
    rw [madeOf_vers _ _ _ (fun _ => .inl rfl) k]
    cases e : (exD l d).2.1 k with
    | none => simp
    | some o => simp [has_iff.2 (exD_keys (l := l) hd k (by simp [e]))]
  rw [e2] at h1
  rw [e]; exact h1
theorem doD_num {l : List Row} {d : Deed3} (hs : Srt l) (hd : RightDD d) (k : ByteArray) : num k (doD l d) = if (exD l d).2.2 = true then num k l else look (fun k => num k l) (exD l d).2.1 k := by
  cases h : (exD l d).2.2 with
  | true => rw [doD_fail h]; simp
  | false => rw [(doD_over hs hd h).num_ k]; simp
theorem doD_at {l : List Row} {d : Deed3} (hs : Srt l) (hd : RightDD d) (k : ByteArray) : isAt k (doD l d) = if (exD l d).2.2 = true then isAt k l else isThere l (exD l d).2.1 k := by
  cases h : (exD l d).2.2 with
  | true => rw [doD_fail h]; simp
  | false => rw [(doD_over hs hd h).at_ k]; simp
/-- Keys that a deed does not write are as they were. -/
theorem doD_else {l : List Row} {d : Deed3} (hs : Srt l) (hd : RightDD d) {k : ByteArray} (hk : k ∉ d.2.1) : num k (doD l d) = num k l ∧ isAt k (doD l d) = isAt k l := by
  have hm : (exD l d).2.1 k = none := by
    cases e : (exD l d).2.1 k with
    | none => rfl
    | some o => exact absurd (exD_keys (l := l) hd k (by simp [e])) hk
  rw [doD_num hs hd, doD_at hs hd]
  constructor
  · split
    · rfl
    · simp [look, hm]
  · split
    · rfl
    · simp [isThere, hm]

/-! ### Rows stay right -/
theorem rnd_lo (x : Int) : -1073741824 ≤ rnd x := by
  unfold rnd; have := Int.tmod_lt_of_pos (-(wrap64 x)) (show (0 : Int) < 1073741825 by decide); rw [Int.neg_tmod] at this; omega
theorem rnd_hi (x : Int) : rnd x ≤ 1073741824 := by
  unfold rnd; have := Int.tmod_lt_of_pos (wrap64 x) (show (0 : Int) < 1073741825 by decide); omega
def InR (x : Int) : Prop := -1073741824 ≤ x ∧ x ≤ 1073741824
theorem inR_zero : InR 0 := ⟨by decide, by decide⟩
theorem inR_rnd (x : Int) : InR (rnd x) := ⟨rnd_lo x, rnd_hi x⟩
theorem inR_set {r : Nat → Int} (h : ∀ i, InR (r i)) (a : Nat) {x : Int} (hx : InR x) : ∀ i, InR (setR r a x i) := fun i => by
  unfold setR; split
  · exact hx
  · exact h i
def InM (m : Made) : Prop := ∀ k n, m k = some (some n) → InR n
theorem inM_set {m : Made} (h : InM m) (k : ByteArray) {o : Option Int} (ho : ∀ n, o = some n → InR n) : InM (setM m k o) := fun j n e => by
  unfold setM at e; split at e
  · exact ho n (Option.some.inj e)
  · exact h j n e
theorem inR_look {v : ByteArray → Int} {m : Made} (hv : ∀ k, InR (v k)) (hm : InM m) (k : ByteArray) : InR (look v m k) := by
  unfold look; split
  · rename_i n e; exact hm k n e
  · exact inR_zero
  · exact hv k
theorem exec_inR {v : ByteArray → Int} (hv : ∀ k, InR (v k)) : ∀ (l : List Ins) (s : Nat) (r : Nat → Int) (m : Made), (∀ i ∈ l, InR i.n) → (∀ i, InR (r i)) → InM m → (∀ i, InR ((exec v l s r m).1 i)) ∧ InM (exec v l s r m).2.1
  | [], _, r, m, _, hr, hm => by rw [exec]; exact ⟨hr, hm⟩
  | i :: l, s + 1, r, m, hl, hr, hm => by
    rw [exec]; exact exec_inR hv l s r m (fun j hj => hl j (by simp [hj])) hr hm
  | i :: l, 0, r, m, hl, hr, hm => by
    have hl' : ∀ j ∈ l, InR j.n := fun j hj => hl j (by simp [hj])
    rw [exec]
    split
    · exact exec_inR hv l _ _ _ hl' (inR_set hr _ (inR_look hv hm _)) hm
    split
    · exact exec_inR hv l _ _ _ hl' (inR_set hr _ (hl i (by simp))) hm
    split
    · exact exec_inR hv l _ _ _ hl' (inR_set hr _ (inR_rnd _)) hm
    split
    · exact exec_inR hv l _ _ _ hl' (inR_set hr _ (inR_rnd _)) hm
    split
    · exact exec_inR hv l _ _ _ hl' (inR_set hr _ (inR_rnd _)) hm
    split
    · exact exec_inR hv l _ _ _ hl' hr (inM_set hm _ (fun n e => by cases e; exact hr _))
    split
    · exact exec_inR hv l _ _ _ hl' hr (inM_set hm _ (fun n e => by cases e))
    split
    · exact exec_inR hv l _ _ _ hl' hr hm
    split
    · exact ⟨hr, hm⟩
    · exact exec_inR hv l _ _ _ hl' hr hm
theorem num_inR {l : List Row} (h : Right l) (k : ByteArray) : InR (num k l) := by
  induction l with
  | nil => exact inR_zero
  | cons x l ih =>
    have hx : InR x.2 := ⟨h.lo x (by simp), h.hi x (by simp)⟩
    have ht : Right l := ⟨(srt_cons.1 h.srt).2, fun y hy => h.key y (by simp [hy]), fun y hy => h.lo y (by simp [hy]), fun y hy => h.hi y (by simp [hy])⟩
    have hn := ih ht
    unfold num
    repeat' split
    all_goals first | exact hx | exact hn | exact inR_zero
theorem right_nums {d : Deed3} (h : RightDD d) : ∀ i ∈ d.2.2, InR i.n := fun i hi => by
  obtain ⟨j, hj, rfl⟩ := List.getElem_of_mem hi
  have hc := h.c
  have := right_norm (by omega) (h.i j hj)
  simp only [List.getD, List.getElem?_eq_getElem hj, Option.getD_some] at this
  exact ⟨this.lo, this.hi⟩
theorem right_putOne {l : List Row} (h : Right l) {x : ByteArray × Option Int} (hk : keyB x.1 = true) (hn : ∀ n, x.2 = some n → InR n) : Right (putOne l x) := by
  unfold putOne
  split
  · rename_i n e; exact right_ins h hk (hn n e).1 (hn n e).2
  · exact right_del h
theorem right_foldl : ∀ (V : List (ByteArray × Option Int)) {l : List Row}, Right l → (∀ x ∈ V, keyB x.1 = true ∧ ∀ n, x.2 = some n → InR n) → Right (V.foldl putOne l)
  | [], _, h, _ => h
  | x :: V, l, h, hV => right_foldl V (right_putOne h (hV x (by simp)).1 (hV x (by simp)).2) (fun y hy => hV y (by simp [hy]))
theorem vers_mem {m : Made} {W : List ByteArray} {x : ByteArray × Option Int} (h : x ∈ vers m W) : x.1 ∈ W ∧ m x.1 = some x.2 := by
  unfold vers at h
  obtain ⟨k, hk, e⟩ := List.mem_filterMap.1 h
  cases e2 : m k with
  | none => rw [e2] at e; cases e
  | some o =>
    rw [e2] at e
    simp only [Option.map_some, Option.some.injEq] at e
    subst e
    exact ⟨hk, e2⟩
/-- Right rows are right behind a right deed. -/
theorem doD_right {l : List Row} {d : Deed3} (h : Right l) (hd : RightDD d) : Right (doD l d) := by
  cases hf : (exD l d).2.2 with
  | true => rw [doD_fail hf]; exact h
  | false =>
    unfold doD
    rw [if_neg (by rw [hf]; simp)]
    refine right_foldl _ h fun x hx => ?_
    obtain ⟨h1, h2⟩ := vers_mem hx
    refine ⟨wKeys_key hd.w h1, fun n e => ?_⟩
    rw [e] at h2
    exact (exec_inR (num_inR h) d.2.2 0 zeroR zeroM (right_nums hd) (fun _ => inR_zero) (fun k n e => by cases e)).2 x.1 n h2
/-! ### Who shares nothing may go first -/
theorem exec_same {v v' : ByteArray → Int} : ∀ (l : List Ins) (s : Nat) (r : Nat → Int) (m : Made), (∀ i ∈ l, i.kind = 1 → v i.key = v' i.key) → exec v l s r m = exec v' l s r m
  | [], _, _, _, _ => rfl
  | i :: l, s + 1, r, m, h => by
    rw [exec, exec]; exact exec_same l s r m (fun j hj => h j (by simp [hj]))
  | i :: l, 0, r, m, h => by
    have h' : ∀ j ∈ l, j.kind = 1 → v j.key = v' j.key := fun j hj => h j (by simp [hj])
    rw [exec, exec]
    split
    · rename_i hk
      have : look v m i.key = look v' m i.key := by
        unfold look; split
        · rfl
        · rfl
        · exact h i (by simp) hk
      rw [this]
      exact exec_same l _ _ _ h'
    repeat' split
    all_goals first | rfl | exact exec_same l _ _ _ h'
theorem right_loads {d : Deed3} (h : RightDD d) : ∀ i ∈ d.2.2, i.kind = 1 → i.key ∈ d.1 := fun i hi hk => by
  obtain ⟨j, hj, rfl⟩ := List.getElem_of_mem hi
  have := (right_instr (h.i j hj)).load
  simp only [List.getD, List.getElem?_eq_getElem hj, Option.getD_some] at this
  exact has_iff.1 (this hk)
end Go.Proofs.YtagangiilcicpaeGreatDoor

namespace Go.Proofs.YtagangiilcicpaeGreatDoor
open Go.RowKit

/-- From block b, place o on lie the three slices of a deed. -/
def DeedHere (w : World) (b o : Nat) (d : Deed3) : Prop := ∃ rb rn rc wb wn wc cb cn cc, w.cell? ⟨b, o, none⟩ = some (.slice rb rn rc) ∧ w.cell? ⟨b, o + 1, none⟩ = some (.slice wb wn wc) ∧ w.cell? ⟨b, o + 2, none⟩ = some (.slice cb cn cc) ∧
  DeedIn w rb rn rc wb wn wc cb cn cc d.1 d.2.1 d.2.2 ∧ SmallT d.1 ∧ SmallT d.2.1
theorem DeedHere.below {w w' : World} {b o : Nat} {d : Deed3} (h : DeedHere w b o d) (hb : Below w.heap.size w w') : DeedHere w' b o d := by
  obtain ⟨rb, rn, rc, wb, wn, wc, cb, cn, cc, h0, h1, h2, h3, h4⟩ := h
  exact ⟨rb, rn, rc, wb, wn, wc, cb, cn, cc, kept_cell hb h0, kept_cell hb h1, kept_cell hb h2, h3.below hb, h4⟩
/-- A slice holds deeds. -/
structure DeedsIn (w : World) (base : Option Addr) (n c : Nat) (D : List Deed3) : Prop where
  len : n = D.length
  hdr : Hdr base n c
  run : n = 0 ∨ ∃ b o, base = some ⟨b, o, none⟩ ∧ ∀ i, i < n → DeedHere w b (o + i * 3) (D.getD i default)
theorem DeedsIn.below {w w' : World} {base : Option Addr} {n c : Nat} {D : List Deed3} (h : DeedsIn w base n c D) (hb : Below w.heap.size w w') : DeedsIn w' base n c D := by
  refine ⟨h.len, h.hdr, ?_⟩
  rcases h.run with h0 | ⟨b, o, e, hr⟩
  · exact .inl h0
  · exact .inr ⟨b, o, e, fun i hi => (hr i hi).below hb⟩
def RightDs (D : List Deed3) : Prop := ∀ d ∈ D, RightDD d
theorem right_wDeed {R W : List ByteArray} {C : List Ins} (h : RightD R W C) : wDeed R W C = 0 := by
  unfold wDeed
  rw [if_neg (by rw [h.r]; simp), if_neg (by rw [h.w]; simp), if_neg (by have := h.c; omega)]
  have : ∀ k, k ≤ C.length → wCode R W C k = 0 := by
    intro k
    induction k with
    | zero => intro _; rfl
    | succ k ih => intro hk; exact wCode_step (ih (by omega)) (h.i k (by omega))
  exact this _ (Nat.le_refl _)

/-! ### Ends -/
def endCell (e : End3) : List Value := [.bool e.1, .int .i64 (e.2 0), .int .i64 (e.2 1), .int .i64 (e.2 2), .int .i64 (e.2 3)]
def endCells : List End3 → List Value
  | [] => []
  | e :: l => endCell e ++ endCells l
theorem endCells_length : ∀ l, (endCells l).length = l.length * 5
  | [] => rfl
  | e :: l => by simp [endCells, endCell, endCells_length l]; omega
theorem endCells_append : ∀ l m, endCells (l ++ m) = endCells l ++ endCells m
  | [], _ => rfl
  | e :: l, m => by simp [endCells, endCells_append l m]
theorem endCell_one (e : End3) : ∀ u ∈ endCell e, u.oneCell' = true := fun u hu => by
  simp [endCell] at hu; rcases hu with rfl | rfl | rfl | rfl | rfl <;> rfl
theorem endCells_one : ∀ l, ∀ u ∈ endCells l, u.oneCell' = true
  | [], _, h => by cases h
  | e :: l, u, h => by
    simp only [endCells, List.mem_append] at h
    rcases h with h | h
    · exact endCell_one e u h
    · exact endCells_one l u h
theorem endCells_at : ∀ (l : List End3) (k : Nat), k < l.length → ∀ j u, (endCell (l.getD k default))[j]? = some u → (endCells l)[k * 5 + j]? = some u
  | [], k, h => absurd h (Nat.not_lt_zero _)
  | e :: l, 0, _ => fun j u hu => by
    rw [endCells, List.getElem?_append_left]
    · simpa using hu
    · simpa using (List.getElem?_eq_some_iff.1 hu).1
  | e :: l, k + 1, h => fun j u hu => by
    have := endCells_at l k (by simpa using h) j u (by simpa using hu)
    rw [endCells, List.getElem?_append_right (by simp [endCell]; omega)]
    rw [show (k + 1) * 5 + j - (endCell e).length = k * 5 + j from by simp [endCell]; omega]
    exact this
/-- A slice holds ends. -/
abbrev Ends (w : World) (base : Option Addr) (n c : Nat) (E : List End3) : Prop := Lies w 5 base n c (endCells E)
theorem Ends.count {w : World} {base : Option Addr} {n c : Nat} {E : List End3} (h : Ends w base n c E) : n = E.length := by have := h.len; rw [endCells_length] at this; omega
theorem Ends.cells {w : World} {b o : Nat} {E : List End3} (h : Run w b o (endCells E)) {k : Nat} (hk : k < E.length) :
    w.cell? ⟨b, o + k * 5, none⟩ = some (.bool (E.getD k default).1) ∧ w.cell? ⟨b, o + k * 5 + 1, none⟩ = some (.int .i64 ((E.getD k default).2 0)) ∧ w.cell? ⟨b, o + k * 5 + 2, none⟩ = some (.int .i64 ((E.getD k default).2 1)) ∧
      w.cell? ⟨b, o + k * 5 + 3, none⟩ = some (.int .i64 ((E.getD k default).2 2)) ∧ w.cell? ⟨b, o + k * 5 + 4, none⟩ = some (.int .i64 ((E.getD k default).2 3)) := by
  have key : ∀ j u, (endCell (E.getD k default))[j]? = some u → w.cell? ⟨b, o + k * 5 + j, none⟩ = some u := fun j u hu => by
    rw [Nat.add_assoc]; exact h _ u (endCells_at E k hk j u hu)
  exact ⟨key 0 _ rfl, key 1 _ rfl, key 2 _ rfl, key 3 _ rfl, key 4 _ rfl⟩
theorem allD_snoc : ∀ (D : List Deed3) (l : List Row) (d : Deed3), allD l (D ++ [d]) = doD (allD l D) d
  | [], _, _ => rfl
  | x :: D, l, d => allD_snoc D (doD l x) d
theorem allD_right : ∀ (D : List Deed3) {l : List Row}, Right l → RightDs D → Right (allD l D)
  | [], _, h, _ => h
  | d :: D, l, h, hD => allD_right D (doD_right h (hD d (by simp))) (fun e he => hD e (by simp [he]))
theorem rights_take {D : List Deed3} (h : RightDs D) (k : Nat) : RightDs (D.take k) := fun d hd => h d (List.mem_of_mem_take hd)
theorem rights_at {D : List Deed3} (h : RightDs D) {k : Nat} (hk : k < D.length) : RightDD (D.getD k default) := h _ (by simp [List.getD, hk])
end Go.Proofs.YtagangiilcicpaeGreatDoor

namespace Go.Proofs.YtagangiilcicpaeGreatDoor
open Go.ChangeShapes Go.WideShapes Go.ChangeAt Go.RowKit Go.Deep Go.Joins

theorem cellsTexts : Tryz.prog.cellsOf 56 = 1 := by kernel_rfl
theorem cellsCodes : Tryz.prog.cellsOf 57 = 1 := by kernel_rfl
end Go.Proofs.YtagangiilcicpaeGreatDoor
