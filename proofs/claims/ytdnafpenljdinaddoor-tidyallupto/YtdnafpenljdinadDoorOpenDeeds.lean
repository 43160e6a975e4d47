/-
  Plain mathematics of deeds that are done one by one on rows: what keys have then, that rows stay right, and that deeds which share nothing may go in either order.
  What it means that a slice in memory holds deeds, and ends of deeds.
  How an argument that is deeds is read: each one's three slices lie there.
-/
import Derived.Test.YtdnafpenljdinadDoorDoMath
import Derived.Test.YtdnafpenljdinadDoorTextBack
import Derived.Test.YtdnafpenljdinadDoorOpenDeed
namespace Go.Proofs.YtdnafpenljdinadDoor
open Go.RowKit

/-- A deed: what it reads, what it writes, its instructions. -/
abbrev Deed3 := List ByteArray × List ByteArray × List Ins
/-- How a deed ends: whether it failed, and its registers. -/
abbrev End3 := Bool × (Nat → Int)
def exD (l : List Row) (d : Deed3) : (Nat → Int) × Made × Bool := exec (fun k => num k l) d.2.2 0 zeroR zeroM
def doD (l : List Row) (d : Deed3) : List Row := if (exD l d).2.2 = true then l else (vers (exD l d).2.1 d.2.1).foldl putOne l
def endD (l : List Row) (d : Deed3) : End3 := ((exD l d).2.2, (exD l d).1)
def allD : List Row → List Deed3 → List Row
  | l, [] => l
  | l, d :: ds => allD (doD l d) ds
def endsD : List Row → List Deed3 → List End3
  | _, [] => []
  | l, d :: ds => endD l d :: endsD (doD l d) ds
def RightDD (d : Deed3) : Prop := RightD d.1 d.2.1 d.2.2

/-! ### What keys have -/
theorem exD_keys {l : List Row} {d : Deed3} (h : RightDD d) : ∀ k, ((exD l d).2.1 k).isSome = true → k ∈ d.2.1 :=
  exec_keys _ d.2.1 d.2.2 0 zeroR zeroM (right_keys h) (fun k hk => by simp [zeroM] at hk)
theorem doD_fail {l : List Row} {d : Deed3} (h : (exD l d).2.2 = true) : doD l d = l := if_pos h
theorem doD_over {l : List Row} {d : Deed3} (hs : Srt l) (hd : RightDD d) (h : (exD l d).2.2 = false) : Over (doD l d) l (exD l d).2.1 := by
  have e : doD l d = (vers (exD l d).2.1 d.2.1).foldl putOne l := if_neg (by rw [h]; simp)
  have h1 := over_foldl (vers (exD l d).2.1 d.2.1) l l (fun _ => none) (Over.start hs)
  have e2 : madeOf (vers (exD l d).2.1 d.2.1) (fun _ => none) = (exD l d).2.1 := by
    funext k
    rw [madeOf_vers _ _ _ (fun _ => .inl rfl) k]
    cases e : (exD l d).2.1 k with
    | none => simp
    | some o => simp [has_iff.2 (exD_keys (l := l) hd k (by simp [e]))]
  rw [e2] at h1
  rw [e]; exact h1
/-- Rows that are l with what was made are the rows then. -/
theorem over_doD {L l : List Row} {d : Deed3} (hs : Srt l) (hd : RightDD d) (h : (exD l d).2.2 = false) (hL : Over L l (exD l d).2.1) : L = doD l d := hL.one (doD_over hs hd h)
theorem doD_srt {l : List Row} {d : Deed3} (hs : Srt l) (hd : RightDD d) : Srt (doD l d) := by
  cases h : (exD l d).2.2 with
  | true => rw [doD_fail h]; exact hs
  | false => exact (doD_over hs hd h).srt
theorem doD_num {l : List Row} {d : Deed3} (hs : Srt l) (hd : RightDD d) (k : ByteArray) : num k (doD l d) = if (exD l d).2.2 = true then num k l else look (fun k => num k l) (exD l d).2.1 k := by
  cases h : (exD l d).2.2 with
  | true => rw [doD_fail h]; simp
  | false => rw [(doD_over hs hd h).num_ k]; simp
theorem doD_at {l : List Row} {d : Deed3} (hs : Srt l) (hd : RightDD d) (k : ByteArray) : isAt k (doD l d) = if (exD l d).2.2 = true then isAt k l else isThere l (exD l d).2.1 k := by
  cases h : (exD l d).2.2 with
  | true => rw [doD_fail h]; simp
  | false => rw [(doD_over hs hd h).at_ k]; simp
/-- Keys that a deed does not write are as they were. -/
theorem doD_else {l : List Row} {d : Deed3} (hs : Srt l) (hd : RightDD d) {k : ByteArray} (hk : k ∉ d.2.1) : num k (doD l d) = num k l ∧ isAt k (doD l d) = isAt k l := by
  have hm : (exD l d).2.1 k = none := by
    cases e : (exD l d).2.1 k with
    | none => rfl
    | some o => exact absurd (exD_keys (l := l) hd k (by simp [e])) hk
  rw [doD_num hs hd, doD_at hs hd]
  constructor
  · split
    · rfl
    · simp [look, hm]
  · split
    · rfl
    · simp [isThere, hm]

/-! ### Rows stay right -/
theorem rnd_lo (x : Int) : -1073741824 ≤ rnd x := by
  unfold rnd; have := Int.tmod_lt_of_pos (-(wrap64 x)) (show (0 : Int) < 1073741825 by decide); rw [Int.neg_tmod] at this; omega
theorem rnd_hi (x : Int) : rnd x ≤ 1073741824 := by
  unfold rnd; have := Int.tmod_lt_of_pos (wrap64 x) (show (0 : Int) < 1073741825 by decide); omega
def InR (x : Int) : Prop := -1073741824 ≤ x ∧ x ≤ 1073741824
theorem inR_zero : InR 0 := ⟨by decide, by decide⟩
theorem inR_rnd (x : Int) : InR (rnd x) := ⟨rnd_lo x, rnd_hi x⟩
theorem inR_set {r : Nat → Int} (h : ∀ i, InR (r i)) (a : Nat) {x : Int} (hx : InR x) : ∀ i, InR (setR r a x i) := fun i => by
  unfold setR; split
  · exact hx
  · exact h i
def InM (m : Made) : Prop := ∀ k n, m k = some (some n) → InR n
theorem inM_set {m : Made} (h : InM m) (k : ByteArray) {o : Option Int} (ho : ∀ n, o = some n → InR n) : InM (setM m k o) := fun j n e => by
  unfold setM at e; split at e
  · exact ho n (Option.some.inj e)
  · exact h j n e
theorem inR_look {v : ByteArray → Int} {m : Made} (hv : ∀ k, InR (v k)) (hm : InM m) (k : ByteArray) : InR (look v m k) := by
  unfold look; split
  · rename_i n e; exact hm k n e
  · exact inR_zero
  · exact hv k
theorem exec_inR {v : ByteArray → Int} (hv : ∀ k, InR (v k)) : ∀ (l : List Ins) (s : Nat) (r : Nat → Int) (m : Made), (∀ i ∈ l, InR i.n) → (∀ i, InR (r i)) → InM m → (∀ i, InR ((exec v l s r m).1 i)) ∧ InM (exec v l s r m).2.1
  | [], _, r, m, _, hr, hm => by rw [exec]; exact ⟨hr, hm⟩
  | i :: l, s + 1, r, m, hl, hr, hm => by
    rw [exec]; exact exec_inR hv l s r m (fun j hj => hl j (by simp [hj])) hr hm
  | i :: l, 0, r, m, hl, hr, hm => by
    have hl' : ∀ j ∈ l, InR j.n := fun j hj => hl j (by simp [hj])
    rw [exec]
    split
    · exact exec_inR hv l _ _ _ hl' (inR_set hr _ (inR_look hv hm _)) hm
    split
    · exact exec_inR hv l _ _ _ hl' (inR_set hr _ (hl i (by simp))) hm
    split
    · exact exec_inR hv l _ _ _ hl' (inR_set hr _ (inR_rnd _)) hm
    split
    · exact exec_inR hv l _ _ _ hl' (inR_set hr _ (inR_rnd _)) hm
    split
    · exact exec_inR hv l _ _ _ hl' (inR_set hr _ (inR_rnd _)) hm
    split
    · exact exec_inR hv l _ _ _ hl' hr (inM_set hm _ (fun n e => by cases e; exact hr _))
    split
    · exact exec_inR hv l _ _ _ hl' hr (inM_set hm _ (fun n e => by cases e))
    split
    · exact exec_inR hv l _ _ _ hl' hr hm
    split
    · exact ⟨hr, hm⟩
    · exact exec_inR hv l _ _ _ hl' hr hm
theorem num_inR {l : List Row} (h : Right l) (k : ByteArray) : InR (num k l) := by
  induction l with
  | nil => exact inR_zero
  | cons x l ih =>
    have hx : InR x.2 := ⟨h.lo x (by simp), h.hi x (by simp)⟩
    have ht : Right l := ⟨(srt_cons.1 h.srt).2, fun y hy => h.key y (by simp [hy]), fun y hy => h.lo y (by simp [hy]), fun y hy => h.hi y (by simp [hy])⟩
    have hn := ih ht
    unfold num
    repeat' split
    all_goals first | exact hx | exact hn | exact inR_zero
theorem right_nums {d : Deed3} (h : RightDD d) : ∀ i ∈ d.2.2, InR i.n := fun i hi => by
  obtain ⟨j, hj, rfl⟩ := List.getElem_of_mem hi
  have hc := h.c
  have := right_norm (by omega) (h.i j hj)
  simp only [List.getD, List.getElem?_eq_getElem hj, Option.getD_some] at this
  exact ⟨this.lo, this.hi⟩
theorem right_putOne {l : List Row} (h : Right l) {x : ByteArray × Option Int} (hk : keyB x.1 = true) (hn : ∀ n, x.2 = some n → InR n) : Right (putOne l x) := by
  unfold putOne
  split
  · rename_i n e; exact right_ins h hk (hn n e).1 (hn n e).2
  · exact right_del h
theorem right_foldl : ∀ (V : List (ByteArray × Option Int)) {l : List Row}, Right l → (∀ x ∈ V, keyB x.1 = true ∧ ∀ n, x.2 = some n → InR n) → Right (V.foldl putOne l)
  | [], _, h, _ => h
  | x :: V, l, h, hV => right_foldl V (right_putOne h (hV x (by simp)).1 (hV x (by simp)).2) (fun y hy => hV y (by simp [hy]))
theorem vers_mem {m : Made} {W : List ByteArray} {x : ByteArray × Option Int} (h : x ∈ vers m W) : x.1 ∈ W ∧ m x.1 = some x.2 := by
  unfold vers at h
  obtain ⟨k, hk, e⟩ := List.mem_filterMap.1 h
  cases e2 : m k with
  | none => rw [e2] at e; cases e
  | some o =>
    rw [e2] at e
    simp only [Option.map_some, Option.some.injEq] at e
    subst e
    exact ⟨hk, e2⟩
/-- Right rows are right behind a right deed. -/
theorem doD_right {l : List Row} {d : Deed3} (h : Right l) (hd : RightDD d) : Right (doD l d) := by
  cases hf : (exD l d).2.2 with
  | true => rw [doD_fail hf]; exact h
  | false =>
    unfold doD
    rw [if_neg (by rw [hf]; simp)]
    refine right_foldl _ h fun x hx => ?_
    obtain ⟨h1, h2⟩ := vers_mem hx
    refine ⟨wKeys_key hd.w h1, fun n e => ?_⟩
    rw [e] at h2
    exact (exec_inR (num_inR h) d.2.2 0 zeroR zeroM (right_nums hd) (fun _ => inR_zero) (fun k n e => by cases e)).2 x.1 n h2
theorem doD_length (l : List Row) (d : Deed3) : (doD l d).length ≤ l.length + d.2.1.length := by
  have one : ∀ (l : List Row) (x : ByteArray × Option Int), (putOne l x).length ≤ l.length + 1 := fun l x => by
    unfold putOne; split
    · exact ins_length _ _ _
    · have := del_length x.1 l; omega
  have key : ∀ (V : List (ByteArray × Option Int)) (l : List Row), (V.foldl putOne l).length ≤ l.length + V.length := by
    intro V
    induction V with
    | nil => intro l; simp
    | cons x V ih => intro l; have := ih (putOne l x); have := one l x; simp only [List.foldl_cons, List.length_cons]; omega
  unfold doD; split
  · omega
  · have h1 := key (vers (exD l d).2.1 d.2.1) l
    have h2 : (vers (exD l d).2.1 d.2.1).length ≤ d.2.1.length := List.length_filterMap_le _ _
    omega

/-! ### Who shares nothing may go first -/
theorem exec_same {v v' : ByteArray → Int} : ∀ (l : List Ins) (s : Nat) (r : Nat → Int) (m : Made), (∀ i ∈ l, i.kind = 1 → v i.key = v' i.key) → exec v l s r m = exec v' l s r m
  | [], _, _, _, _ => rfl
  | i :: l, s + 1, r, m, h => by
    rw [exec, exec]; exact exec_same l s r m (fun j hj => h j (by simp [hj]))
  | i :: l, 0, r, m, h => by
    have h' : ∀ j ∈ l, j.kind = 1 → v j.key = v' j.key := fun j hj => h j (by simp [hj])
    rw [exec, exec]
    split
    · rename_i hk
      have : look v m i.key = look v' m i.key := by
        unfold look; split
        · rfl
        · rfl
        · exact h i (by simp) hk
      rw [this]
      exact exec_same l _ _ _ h'
    repeat' split
    all_goals first | rfl | exact exec_same l _ _ _ h'
theorem right_loads {d : Deed3} (h : RightDD d) : ∀ i ∈ d.2.2, i.kind = 1 → i.key ∈ d.1 := fun i hi hk => by
  obtain ⟨j, hj, rfl⟩ := List.getElem_of_mem hi
  have := (right_instr (h.i j hj)).load
  simp only [List.getD, List.getElem?_eq_getElem hj, Option.getD_some] at this
  exact has_iff.1 (this hk)
/-- A deed that reads nothing that the other one writes ends as if that had not been. -/
theorem exD_else {l : List Row} {d e : Deed3} (hs : Srt l) (hd : RightDD d) (he : RightDD e) (h : ∀ k, k ∈ d.2.1 → k ∉ e.1) : exD (doD l d) e = exD l e := by
  unfold exD
  exact exec_same _ _ _ _ fun i hi hk => (doD_else hs hd (fun hw => h _ hw (right_loads he i hi hk))).1
theorem apart_rows {l : List Row} {d e : Deed3} (hs : Srt l) (hd : RightDD d) (he : RightDD e) (h1 : ∀ k, k ∈ d.2.1 → k ∉ e.2.1) (h2 : ∀ k, k ∈ d.2.1 → k ∉ e.1) (h3 : ∀ k, k ∈ e.2.1 → k ∉ d.1) : doD (doD l d) e = doD (doD l e) d := by
  have ed := exD_else hs hd he h2
  have de := exD_else hs he hd h3
  have sd := doD_srt hs hd
  have se := doD_srt hs he
  have miss : ∀ {l : List Row} {d : Deed3}, RightDD d → ∀ k, k ∉ d.2.1 → (exD l d).2.1 k = none := fun {l d} hd k hk => by
    cases e : (exD l d).2.1 k with
    | none => rfl
    | some o => exact absurd (exD_keys (l := l) hd k (by simp [e])) hk
  refine srt_ext (doD_srt sd he) (doD_srt se hd) (fun k => ?_) (fun k => ?_)
  · by_cases hk : k ∈ d.2.1
    · have hk' := h1 k hk
      rw [(doD_else sd he hk').2, doD_at hs hd, doD_at se hd, de]
      unfold isThere
      rw [(doD_else hs he hk').2]
    · rw [(doD_else se hd hk).2, doD_at sd he, doD_at hs he, ed]
      unfold isThere
      rw [(doD_else hs hd hk).2]
  · by_cases hk : k ∈ d.2.1
    · have hk' := h1 k hk
      rw [(doD_else sd he hk').1, doD_num hs hd, doD_num se hd, de]
      unfold look
      simp only [(doD_else hs he hk').1]
    · rw [(doD_else se hd hk).1, doD_num sd he, doD_num hs he, ed]
      unfold look
      simp only [(doD_else hs hd hk).1]
theorem apart_ends {l : List Row} {d e : Deed3} (hs : Srt l) (hd : RightDD d) (he : RightDD e) (h2 : ∀ k, k ∈ d.2.1 → k ∉ e.1) (h3 : ∀ k, k ∈ e.2.1 → k ∉ d.1) : endD (doD l d) e = endD l e ∧ endD (doD l e) d = endD l d := by
  unfold endD
  rw [exD_else hs hd he h2, exD_else hs he hd h3]
  exact ⟨rfl, rfl⟩
end Go.Proofs.YtdnafpenljdinadDoor

namespace Go.Proofs.YtdnafpenljdinadDoor
open Go.RowKit

/-- From block b, place o on lie the three slices of a deed. -/
def DeedHere (w : World) (b o : Nat) (d : Deed3) : Prop := ∃ rb rn rc wb wn wc cb cn cc, w.cell? ⟨b, o, none⟩ = some (.slice rb rn rc) ∧ w.cell? ⟨b, o + 1, none⟩ = some (.slice wb wn wc) ∧ w.cell? ⟨b, o + 2, none⟩ = some (.slice cb cn cc) ∧
  DeedIn w rb rn rc wb wn wc cb cn cc d.1 d.2.1 d.2.2 ∧ SmallT d.1 ∧ SmallT d.2.1
theorem DeedHere.lt {w : World} {b o : Nat} {d : Deed3} (h : DeedHere w b o d) : b < w.heap.size := by
  obtain ⟨rb, rn, rc, wb, wn, wc, cb, cn, cc, h0, _⟩ := h
  simpa using World.block_lt_of_cell? _ _ h0
theorem DeedHere.below {w w' : World} {b o : Nat} {d : Deed3} (h : DeedHere w b o d) (hb : Below w.heap.size w w') : DeedHere w' b o d := by
  obtain ⟨rb, rn, rc, wb, wn, wc, cb, cn, cc, h0, h1, h2, h3, h4⟩ := h
  exact ⟨rb, rn, rc, wb, wn, wc, cb, cn, cc, kept_cell hb h0, kept_cell hb h1, kept_cell hb h2, h3.below hb, h4⟩
/-- A slice holds deeds. -/
structure DeedsIn (w : World) (base : Option Addr) (n c : Nat) (D : List Deed3) : Prop where
  len : n = D.length
  hdr : Hdr base n c
  run : n = 0 ∨ ∃ b o, base = some ⟨b, o, none⟩ ∧ ∀ i, i < n → DeedHere w b (o + i * 3) (D.getD i default)
theorem DeedsIn.below {w w' : World} {base : Option Addr} {n c : Nat} {D : List Deed3} (h : DeedsIn w base n c D) (hb : Below w.heap.size w w') : DeedsIn w' base n c D := by
  refine ⟨h.len, h.hdr, ?_⟩
  rcases h.run with h0 | ⟨b, o, e, hr⟩
  · exact .inl h0
  · exact .inr ⟨b, o, e, fun i hi => (hr i hi).below hb⟩
def RightDs (D : List Deed3) : Prop := ∀ d ∈ D, RightDD d
theorem right_wDeed {R W : List ByteArray} {C : List Ins} (h : RightD R W C) : wDeed R W C = 0 := by
  unfold wDeed
  rw [if_neg (by rw [h.r]; simp), if_neg (by rw [h.w]; simp), if_neg (by have := h.c; omega)]
  have : ∀ k, k ≤ C.length → wCode R W C k = 0 := by
    intro k
    induction k with
    | zero => intro _; rfl
    | succ k ih => intro hk; exact wCode_step (ih (by omega)) (h.i k (by omega))
  exact this _ (Nat.le_refl _)

/-! ### Ends -/
def endCell (e : End3) : List Value := [.bool e.1, .int .i64 (e.2 0), .int .i64 (e.2 1), .int .i64 (e.2 2), .int .i64 (e.2 3)]
def endCells : List End3 → List Value
  | [] => []
  | e :: l => endCell e ++ endCells l
theorem endCells_length : ∀ l, (endCells l).length = l.length * 5
  | [] => rfl
  | e :: l => by simp [endCells, endCell, endCells_length l]; omega
theorem endCells_append : ∀ l m, endCells (l ++ m) = endCells l ++ endCells m
  | [], _ => rfl
  | e :: l, m => by simp [endCells, endCells_append l m]
theorem endCell_one (e : End3) : ∀ u ∈ endCell e, u.oneCell' = true := fun u hu => by
  simp [endCell] at hu; rcases hu with rfl | rfl | rfl | rfl | rfl <;> rfl
theorem endCells_one : ∀ l, ∀ u ∈ endCells l, u.oneCell' = true
  | [], _, h => by cases h
  | e :: l, u, h => by
    simp only [endCells, List.mem_append] at h
    rcases h with h | h
    · exact endCell_one e u h
    · exact endCells_one l u h
theorem endCells_at : ∀ (l : List End3) (k : Nat), k < l.length → ∀ j u, (endCell (l.getD k default))[j]? = some u → (endCells l)[k * 5 + j]? = some u
  | [], k, h => absurd h (Nat.not_lt_zero _)
  | e :: l, 0, _ => fun j u hu => by
    rw [endCells, List.getElem?_append_left]
    · simpa using hu
    · simpa using (List.getElem?_eq_some_iff.1 hu).1
  | e :: l, k + 1, h => fun j u hu => by
    have := endCells_at l k (by simpa using h) j u (by simpa using hu)
    rw [endCells, List.getElem?_append_right (by simp [endCell]; omega)]
    rw [show (k + 1) * 5 + j - (endCell e).length = k * 5 + j from by simp [endCell]; omega]
    exact this
/-- A slice holds ends. -/
abbrev Ends (w : World) (base : Option Addr) (n c : Nat) (E : List End3) : Prop := Lies w 5 base n c (endCells E)
theorem Ends.count {w : World} {base : Option Addr} {n c : Nat} {E : List End3} (h : Ends w base n c E) : n = E.length := by have := h.len; rw [endCells_length] at this; omega
theorem Ends.cells {w : World} {b o : Nat} {E : List End3} (h : Run w b o (endCells E)) {k : Nat} (hk : k < E.length) :
    w.cell? ⟨b, o + k * 5, none⟩ = some (.bool (E.getD k default).1) ∧ w.cell? ⟨b, o + k * 5 + 1, none⟩ = some (.int .i64 ((E.getD k default).2 0)) ∧ w.cell? ⟨b, o + k * 5 + 2, none⟩ = some (.int .i64 ((E.getD k default).2 1)) ∧
      w.cell? ⟨b, o + k * 5 + 3, none⟩ = some (.int .i64 ((E.getD k default).2 2)) ∧ w.cell? ⟨b, o + k * 5 + 4, none⟩ = some (.int .i64 ((E.getD k default).2 3)) := by
  have key : ∀ j u, (endCell (E.getD k default))[j]? = some u → w.cell? ⟨b, o + k * 5 + j, none⟩ = some u := fun j u hu => by
    rw [Nat.add_assoc]; exact h _ u (endCells_at E k hk j u hu)
  exact ⟨key 0 _ rfl, key 1 _ rfl, key 2 _ rfl, key 3 _ rfl, key 4 _ rfl⟩
theorem endsD_length : ∀ (l : List Row) (D : List Deed3), (endsD l D).length = D.length
  | _, [] => rfl
  | l, d :: D => by simp [endsD, endsD_length (doD l d) D]
theorem allD_snoc : ∀ (D : List Deed3) (l : List Row) (d : Deed3), allD l (D ++ [d]) = doD (allD l D) d
  | [], _, _ => rfl
  | x :: D, l, d => allD_snoc D (doD l x) d
theorem endsD_snoc : ∀ (D : List Deed3) (l : List Row) (d : Deed3), endsD l (D ++ [d]) = endsD l D ++ [endD (allD l D) d]
  | [], _, _ => rfl
  | x :: D, l, d => by simp only [List.cons_append, endsD]; rw [endsD_snoc D (doD l x) d]; rfl
theorem allD_right : ∀ (D : List Deed3) {l : List Row}, Right l → RightDs D → Right (allD l D)
  | [], _, h, _ => h
  | d :: D, l, h, hD => allD_right D (doD_right h (hD d (by simp))) (fun e he => hD e (by simp [he]))
theorem rights_take {D : List Deed3} (h : RightDs D) (k : Nat) : RightDs (D.take k) := fun d hd => h d (List.mem_of_mem_take hd)
theorem rights_at {D : List Deed3} (h : RightDs D) {k : Nat} (hk : k < D.length) : RightDD (D.getD k default) := h _ (by simp [List.getD, hk])
end Go.Proofs.YtdnafpenljdinadDoor

namespace Go.Proofs.YtdnafpenljdinadDoor
open Go.ChangeShapes Go.WideShapes Go.ChangeAt Go.RowKit Go.Deep Go.Joins

theorem cellsTexts : Tryd.prog.cellsOf 48 = 1 := by kernel_rfl
theorem cellsCodes : Tryd.prog.cellsOf 49 = 1 := by kernel_rfl
set_option maxRecDepth 100000 in
theorem open_deeds {H : Type} {enc : TypeId × Value → H} {W : World} {v : Value} {fuel : Nat} {y : DataW H × List MemPlace}
    (h : DataW.trod enc Tryd.prog W 0 (fun _ => true) true fuel 30 [v] = some y) :
    ∃ a len cap D, v = .slice a len cap ∧ DeedsIn W a len cap D ∧ Room y.1 cap := by
  rcases open_slice Tryd.underlying30 h with ⟨hcs, hx⟩ | ⟨x, len, cap, m, n, D, Pl, hcs, _, hl, hm, hmm, hx, hcell⟩
  · simp at hcs
    subst hcs
    rw [hx]
    exact ⟨none, 0, 0, [], rfl, ⟨rfl, ⟨Nat.le_refl _, Nat.zero_le _, fun _ => rfl⟩, .inl rfl⟩, .inl ⟨rfl, rfl⟩⟩
  · simp at hcs
    subst hcs
    simp only [if_true] at hmm
    subst hmm
    have hroom : Room y.1 m := by rw [hx]; exact .inr ⟨_, _, rfl, by simp; omega⟩
    have each : ∀ i, i < len → ∃ d : Deed3, ∃ rb rn rc wb wn wc cb cn cc, W.cell? (x.add (i * 3)) = some (.slice rb rn rc) ∧ W.cell? (x.add (i * 3 + 1)) = some (.slice wb wn wc) ∧ W.cell? (x.add (i * 3 + 2)) = some (.slice cb cn cc) ∧
        DeedIn W rb rn rc wb wn wc cb cn cc d.1 d.2.1 d.2.2 ∧ SmallT d.1 ∧ SmallT d.2.1 := by
      intro i hi
      obtain ⟨cs', h1, h2⟩ := hcell i (by omega)
      rw [cellsDeed] at h1
      obtain ⟨_, hlen, hc⟩ := World.cells?_some h1
      obtain ⟨xs, k, _, _, _, hxl, hf⟩ := DataW.trod_struct Tryd.underlying51 h2
      match cs', hlen, xs, hxl with
      | [v0, v1, v2], _, [y0, y1, y2], _ =>
        have g0 := hf 0 _ rfl
        have g1 := hf 1 _ rfl
        have g2 := hf 2 _ rfl
        simp [cellsTexts, cellsCodes] at g0 g1 g2
        have e0 := hc 0 (by omega)
        have e1 := hc 1 (by omega)
        have e2 := hc 2 (by omega)
        rw [add_add] at e0 e1 e2
        obtain ⟨rb, rn, rc, R, rfl, t0, s0, m0⟩ := open_texts g0
        obtain ⟨wb, wn, wc, Wr, rfl, t1, s1, m1⟩ := open_texts g1
        obtain ⟨cb, cn, cc, C, rfl, t2, m2⟩ := open_codes g2
        exact ⟨(R, Wr, C), rb, rn, rc, wb, wn, wc, cb, cn, cc, by simpa using e0, by simpa using e1, by simpa using e2, ⟨t0, t1, t2⟩, s0, s1⟩
    obtain ⟨q, hq⟩ := choose_lt each
    have hget : ∀ i, i < len → ((List.range len).map q).getD i default = q i := fun i hi => by simp [List.getD, hi]
    refine ⟨some x, len, m, (List.range len).map q, rfl, ⟨by simp, ⟨hl, hm, fun h => by cases h⟩, ?_⟩, hroom⟩
    by_cases h0 : len = 0
    · exact .inl h0
    right
    obtain ⟨b, off, spot⟩ := x
    have hsp : spot = none := by
      obtain ⟨_, _, _, _, _, _, _, _, _, h0, _⟩ := hq 0 (by omega)
      simpa [Addr.add] using World.cell?_spot h0
    subst hsp
    refine ⟨b, off, rfl, fun i hi => ?_⟩
    rw [hget i hi]
    obtain ⟨rb, rn, rc, wb, wn, wc, cb, cn, cc, h0, h1, h2, h3⟩ := hq i hi
    rw [Addr.add_lit] at h0 h1 h2
    exact ⟨rb, rn, rc, wb, wn, wc, cb, cn, cc, h0, by rw [Nat.add_assoc]; exact h1, by rw [Nat.add_assoc]; exact h2, h3⟩
end Go.Proofs.YtdnafpenljdinadDoor
