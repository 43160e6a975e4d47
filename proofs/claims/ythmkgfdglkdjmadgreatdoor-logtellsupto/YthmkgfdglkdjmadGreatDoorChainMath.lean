/-
  What it means that a slice in memory holds deeds, and ends of deeds.
  How an argument that is deeds is read: each one's three slices lie there.
  Plain mathematics of chains of versions: what a key has ahead of a deed, one version more, one that is made, and without what is old.
-/
import Derived.Test.YthmkgfdglkdjmadGreatDoorPlainMath
import Derived.Test.YthmkgfdglkdjmadGreatDoorRefMath
import Derived.Test.YthmkgfdglkdjmadGreatDoorDeedMath
namespace Go.Proofs.YthmkgfdglkdjmadGreatDoor
open Go.RowKit

/-- From block b, place o on lie the three slices of a deed. -/
def DeedHere (w : World) (b o : Nat) (d : Deed3) : Prop := ∃ rb rn rc wb wn wc cb cn cc, w.cell? ⟨b, o, none⟩ = some (.slice rb rn rc) ∧ w.cell? ⟨b, o + 1, none⟩ = some (.slice wb wn wc) ∧ w.cell? ⟨b, o + 2, none⟩ = some (.slice cb cn cc) ∧
  DeedIn w rb rn rc wb wn wc cb cn cc d.1 d.2.1 d.2.2 ∧ SmallT d.1 ∧ SmallT d.2.1
theorem DeedHere.lt {w : World} {b o : Nat} {d : Deed3} (h : DeedHere w b o d) : b < w.heap.size := by
  obtain ⟨rb, rn, rc, wb, wn, wc, cb, cn, cc, h0, _⟩ := h
  simpa using World.block_lt_of_cell? _ _ h0
theorem DeedHere.below {w w' : World} {b o : Nat} {d : Deed3} (h : DeedHere w b o d) (hb : Below w.heap.size w w') : DeedHere w' b o d := by
  obtain ⟨rb, rn, rc, wb, wn, wc, cb, cn, cc, h0, h1, h2, h3, h4⟩ := h
  exact ⟨rb, rn, rc, wb, wn, wc, cb, cn, cc, kept_cell hb h0, kept_cell hb h1, kept_cell hb h2, h3.below hb, h4⟩
/-- A slice holds deeds. -/
structure DeedsIn (w : World) (base : Option Addr) (n c : Nat) (D : List Deed3) : Prop where
  len : n = D.length
  hdr : Hdr base n c
  run : n = 0 ∨ ∃ b o, base = some ⟨b, o, none⟩ ∧ ∀ i, i < n → DeedHere w b (o + i * 3) (D.getD i default)
theorem DeedsIn.below {w w' : World} {base : Option Addr} {n c : Nat} {D : List Deed3} (h : DeedsIn w base n c D) (hb : Below w.heap.size w w') : DeedsIn w' base n c D := by
  refine ⟨h.len, h.hdr, ?_⟩
  rcases h.run with h0 | ⟨b, o, e, hr⟩
  · exact .inl h0
  · exact .inr ⟨b, o, e, fun i hi => (hr i hi).below hb⟩
def RightDs (D : List Deed3) : Prop := ∀ d ∈ D, RightDD d
theorem right_wDeed {R W : List ByteArray} {C : List Ins} (h : RightD R W C) : wDeed R W C = 0 := by
  unfold wDeed
  rw [if_neg (by rw [h.r]; simp), if_neg (by rw [h.w]; simp), if_neg (by have := h.c; omega)]
  have : ∀ k, k ≤ C.length → wCode R W C k = 0 := by
    intro k
    induction k with
    | zero => intro _; rfl
    | succ k ih => intro hk; exact wCode_step (ih (by omega)) (h.i k (by omega))
  exact this _ (Nat.le_refl _)

/-! ### Ends -/
def endCell (e : End3) : List Value := [.bool e.1, .int .i64 (e.2 0), .int .i64 (e.2 1), .int .i64 (e.2 2), .int .i64 (e.2 3)]
def endCells : List End3 → List Value
  | [] => []
  | e :: l => endCell e ++ endCells l
theorem endCells_length : ∀ l, (endCells l).length = l.length * 5
  | [] => rfl
  | e :: l => by simp [endCells, endCell, endCells_length l]; omega
theorem endCells_at : ∀ (l : List End3) (k : Nat), k < l.length → ∀ j u, (endCell (l.getD k default))[j]? = some u → (endCells l)[k * 5 + j]? = some u
  | [], k, h => absurd h (Nat.not_lt_zero _)
  | e :: l, 0, _ => fun j u hu => by
    rw [endCells, List.getElem?_append_left]
    · simpa using hu
    · simpa using (List.getElem?_eq_some_iff.1 hu).1
  | e :: l, k + 1, h => fun j u hu => by
    have := endCells_at l k (by simpa using h) j u (by simpa using hu)
    rw [endCells, List.getElem?_append_right (by simp [endCell]; omega)]
    rw [show (k + 1) * 5 + j - (endCell e).length = k * 5 + j from by simp [endCell]; omega]
    exact this
/-- A slice holds ends. -/
abbrev Ends (w : World) (base : Option Addr) (n c : Nat) (E : List End3) : Prop := Lies w 5 base n c (endCells E)
theorem Ends.count {w : World} {base : Option Addr} {n c : Nat} {E : List End3} (h : Ends w base n c E) : n = E.length := by have := h.len; rw [endCells_length] at this; omega
theorem Ends.cells {w : World} {b o : Nat} {E : List End3} (h : Run w b o (endCells E)) {k : Nat} (hk : k < E.length) :
    w.cell? ⟨b, o + k * 5, none⟩ = some (.bool (E.getD k default).1) ∧ w.cell? ⟨b, o + k * 5 + 1, none⟩ = some (.int .i64 ((E.getD k default).2 0)) ∧ w.cell? ⟨b, o + k * 5 + 2, none⟩ = some (.int .i64 ((E.getD k default).2 1)) ∧
      w.cell? ⟨b, o + k * 5 + 3, none⟩ = some (.int .i64 ((E.getD k default).2 2)) ∧ w.cell? ⟨b, o + k * 5 + 4, none⟩ = some (.int .i64 ((E.getD k default).2 3)) := by
  have key : ∀ j u, (endCell (E.getD k default))[j]? = some u → w.cell? ⟨b, o + k * 5 + j, none⟩ = some u := fun j u hu => by
    rw [Nat.add_assoc]; exact h _ u (endCells_at E k hk j u hu)
  exact ⟨key 0 _ rfl, key 1 _ rfl, key 2 _ rfl, key 3 _ rfl, key 4 _ rfl⟩
theorem allD_snoc : ∀ (D : List Deed3) (l : List Row) (d : Deed3), allD l (D ++ [d]) = doD (allD l D) d
  | [], _, _ => rfl
  | x :: D, l, d => allD_snoc D (doD l x) d
theorem allD_right : ∀ (D : List Deed3) {l : List Row}, Right l → RightDs D → Right (allD l D)
  | [], _, h, _ => h
  | d :: D, l, h, hD => allD_right D (doD_right h (hD d (by simp))) (fun e he => hD e (by simp [he]))
theorem rights_take {D : List Deed3} (h : RightDs D) (k : Nat) : RightDs (D.take k) := fun d hd => h d (List.mem_of_mem_take hd)
theorem rights_at {D : List Deed3} (h : RightDs D) {k : Nat} (hk : k < D.length) : RightDD (D.getD k default) := h _ (by simp [List.getD, hk])
end Go.Proofs.YthmkgfdglkdjmadGreatDoor

namespace Go.Proofs.YthmkgfdglkdjmadGreatDoor
open Go.ChangeShapes Go.WideShapes Go.ChangeAt Go.RowKit Go.Deep Go.Joins

theorem cellsTexts : Tryz.prog.cellsOf 72 = 1 := by kernel_rfl
theorem cellsCodes : Tryz.prog.cellsOf 73 = 1 := by kernel_rfl
end Go.Proofs.YthmkgfdglkdjmadGreatDoor

namespace Go.Proofs.YthmkgfdglkdjmadGreatDoor
open Go.RowKit

/-- A version: by whom, whether it is made, whether the key has something, and what. -/
abbrev Ver := Int × Bool × Bool × Int
abbrev Ver.by_ (v : Ver) : Int := v.1
abbrev Ver.made (v : Ver) : Bool := v.2.1
abbrev Ver.has_ (v : Ver) : Bool := v.2.2.1
abbrev Ver.n (v : Ver) : Int := v.2.2.2
/-- A key and its versions. -/
abbrev Chn := ByteArray × List Ver
def ver0 : Ver := (-1, true, false, 0)
def newV (by_ : Int) : Ver := (by_, false, false, 0)

/-- The last one that is by somebody ahead. -/
def befV (by_ : Int) : List Ver → Ver → Ver
  | [], o => o
  | v :: l, o => befV by_ l (if v.by_ < by_ then v else o)
theorem befV_append (by_ : Int) : ∀ (a b : List Ver) (o : Ver), befV by_ (a ++ b) o = befV by_ b (befV by_ a o)
  | [], _, _ => rfl
  | _ :: a, b, _ => befV_append by_ a b _
/-- A key's versions. -/
def vsOf (k : ByteArray) : List Chn → List Ver
  | [] => []
  | c :: L => if c.1 = k then c.2 else vsOf k L
def before (L : List Chn) (k : ByteArray) (by_ : Int) : Ver := befV by_ (vsOf k L) ver0

def SrtC (L : List Chn) : Prop := L.Pairwise (fun x y => less x.1 y.1 = true)
theorem srtC_cons {x : Chn} {L : List Chn} : SrtC (x :: L) ↔ (∀ y ∈ L, less x.1 y.1 = true) ∧ SrtC L := List.pairwise_cons
/-! ### One more -/
def addC (k : ByteArray) (by_ : Int) : List Chn → List Chn
  | [] => [(k, [newV by_])]
  | c :: L => if less k c.1 = true then (k, [newV by_]) :: c :: L else if c.1 = k then (k, c.2 ++ [newV by_]) :: L else c :: addC k by_ L
theorem vsOf_front {k : ByteArray} : ∀ {L : List Chn}, (∀ y ∈ L, less k y.1 = true) → vsOf k L = []
  | [], _ => rfl
  | c :: L, h => by
    rw [vsOf, if_neg (fun e => less_ne (h c (by simp)) e.symm)]
    exact vsOf_front (fun y hy => h y (by simp [hy]))
theorem vsOf_add (k : ByteArray) (by_ : Int) : ∀ (L : List Chn), SrtC L → vsOf k (addC k by_ L) = vsOf k L ++ [newV by_]
  | [], _ => by simp [addC, vsOf]
  | c :: L, h => by
    obtain ⟨h1, h2⟩ := srtC_cons.1 h
    rw [addC]
    by_cases e1 : less k c.1 = true
    · rw [if_pos e1]
      have : vsOf k (c :: L) = [] := vsOf_front (fun y hy => by
        rcases List.mem_cons.1 hy with rfl | hy
        · exact e1
        · exact less_trans e1 (h1 y hy))
      rw [this]
      simp [vsOf]
    · rw [if_neg e1]
      by_cases e2 : c.1 = k
      · rw [if_pos e2]; simp [vsOf, e2]
      · rw [if_neg e2, vsOf, if_neg e2, vsOf_add k by_ L h2, vsOf, if_neg e2]
theorem vsOf_add_other {k o : ByteArray} (by_ : Int) (hko : o ≠ k) : ∀ (L : List Chn), vsOf o (addC k by_ L) = vsOf o L
  | [] => by simp [addC, vsOf, Ne.symm hko]
  | c :: L => by
    rw [addC]
    by_cases e1 : less k c.1 = true
    · rw [if_pos e1, vsOf, if_neg (Ne.symm hko)]
    · rw [if_neg e1]
      by_cases e2 : c.1 = k
      · rw [if_pos e2, vsOf, vsOf, if_neg (Ne.symm hko), if_neg (by rw [e2]; exact Ne.symm hko)]
      · rw [if_neg e2, vsOf, vsOf, vsOf_add_other by_ hko L]

/-! ### One that is made -/
def setV (v : Ver) (l : List Ver) : List Ver := l.map (fun u => if u.by_ = v.by_ then v else u)
def setC (k : ByteArray) (v : Ver) (L : List Chn) : List Chn := L.map (fun c => if c.1 = k then (c.1, setV v c.2) else c)
theorem vsOf_set (k : ByteArray) (v : Ver) : ∀ (L : List Chn), vsOf k (setC k v L) = setV v (vsOf k L)
  | [] => rfl
  | c :: L => by
    show vsOf k ((if c.1 = k then (c.1, setV v c.2) else c) :: setC k v L) = _
    by_cases e : c.1 = k
    · rw [if_pos e, vsOf, vsOf, if_pos e, if_pos e]
    · rw [if_neg e, vsOf, vsOf, if_neg e, if_neg e, vsOf_set k v L]
theorem vsOf_set_other {k o : ByteArray} (v : Ver) (hko : o ≠ k) : ∀ (L : List Chn), vsOf o (setC k v L) = vsOf o L
  | [] => rfl
  | c :: L => by
    show vsOf o ((if c.1 = k then (c.1, setV v c.2) else c) :: setC k v L) = _
    by_cases e : c.1 = k
    · have ho : ¬ c.1 = o := by rw [e]; exact Ne.symm hko
      rw [if_pos e, vsOf, vsOf, if_neg ho, if_neg ho, vsOf_set_other v hko L]
    · rw [if_neg e, vsOf, vsOf, vsOf_set_other v hko L]
theorem setV_append (v : Ver) (a b : List Ver) : setV v (a ++ b) = setV v a ++ setV v b := by simp [setV]
theorem setV_none {v : Ver} : ∀ {l : List Ver}, (∀ u ∈ l, u.by_ ≠ v.by_) → setV v l = l
  | [], _ => rfl
  | u :: l, h => by
    show (if u.by_ = v.by_ then v else u) :: setV v l = _
    rw [if_neg (h u (by simp)), setV_none (fun x hx => h x (by simp [hx]))]

/-! ### What right chains are -/
def Rise (l : List Ver) : Prop := l.Pairwise (fun x y => x.by_ < y.by_)
theorem vsOf_mem {k : ByteArray} : ∀ {L : List Chn}, vsOf k L ≠ [] → (k, vsOf k L) ∈ L
  | [], h => absurd rfl h
  | c :: L, h => by
    rw [vsOf] at h ⊢
    by_cases e : c.1 = k
    · rw [if_pos e]; rw [← e]; exact List.mem_cons_self
    · rw [if_neg e] at h ⊢; exact List.mem_cons_of_mem _ (vsOf_mem h)
/-! ### Who is ahead sees nothing of it -/
theorem befV_high {at_ : Int} : ∀ {l : List Ver} (o : Ver), (∀ v ∈ l, at_ ≤ v.by_) → befV at_ l o = o
  | [], _, _ => rfl
  | v :: l, o, h => by
    have := h v (by simp)
    rw [befV, if_neg (by omega)]
    exact befV_high o (fun x hx => h x (by simp [hx]))
/-! ### Without what is old -/
def laterV (by_ : Int) : List Ver → Bool
  | [] => false
  | u :: _ => decide (u.by_ < by_)
def clearV (by_ : Int) : List Ver → List Ver
  | [] => []
  | v :: l => if (laterV by_ l && decide (v.by_ < by_) || decide (v.by_ < by_) && v.made && !v.has_) = true then clearV by_ l else v :: clearV by_ l
def clearC (by_ : Int) : List Chn → List Chn
  | [] => []
  | c :: L => if clearV by_ c.2 = [] then clearC by_ L else (c.1, clearV by_ c.2) :: clearC by_ L
theorem clearV_high {by_ : Int} : ∀ {l : List Ver}, (∀ v ∈ l, by_ ≤ v.by_) → clearV by_ l = l
  | [], _ => rfl
  | v :: l, h => by
    have hv := h v (by simp)
    have hd : decide (v.by_ < by_) = false := by simpa using hv
    rw [clearV, if_neg (by rw [hd]; simp), clearV_high (fun x hx => h x (by simp [hx]))]
theorem clearC_mem {by_ : Int} {x : Chn} : ∀ {L : List Chn}, x ∈ clearC by_ L → ∃ c ∈ L, x.1 = c.1 ∧ x.2 = clearV by_ c.2 ∧ x.2 ≠ []
  | [], h => by cases h
  | c :: L, h => by
    rw [clearC] at h
    split at h
    · obtain ⟨c', h1, h2⟩ := clearC_mem h
      exact ⟨c', by simp [h1], h2⟩
    · rename_i hne
      rcases List.mem_cons.1 h with rfl | h
      · exact ⟨c, by simp, rfl, rfl, hne⟩
      · obtain ⟨c', h1, h2⟩ := clearC_mem h
        exact ⟨c', by simp [h1], h2⟩
theorem clearC_srt {by_ : Int} : ∀ {L : List Chn}, SrtC L → SrtC (clearC by_ L)
  | [], _ => List.Pairwise.nil
  | c :: L, h => by
    obtain ⟨h1, h2⟩ := srtC_cons.1 h
    rw [clearC]; split
    · exact clearC_srt h2
    · refine srtC_cons.2 ⟨fun y hy => ?_, clearC_srt h2⟩
      obtain ⟨c', m, e, _⟩ := clearC_mem hy
      rw [e]; exact h1 c' m
theorem vsOf_clear {k : ByteArray} {by_ : Int} : ∀ {L : List Chn}, SrtC L → vsOf k (clearC by_ L) = clearV by_ (vsOf k L)
  | [], _ => rfl
  | c :: L, h => by
    obtain ⟨h1, h2⟩ := srtC_cons.1 h
    rw [clearC, vsOf]
    by_cases e : c.1 = k
    · rw [if_pos e]
      split
      · rename_i h0
        rw [h0]
        by_cases hv : vsOf k (clearC by_ L) = []
        · exact hv
        · obtain ⟨c', m, e2, _⟩ := clearC_mem (vsOf_mem hv)
          exact absurd (by rw [e, ← e2]) (less_ne (h1 c' m))
      · rw [vsOf, if_pos e]
    · rw [if_neg e]
      split
      · exact vsOf_clear h2
      · rw [vsOf, if_neg e]; exact vsOf_clear h2
end Go.Proofs.YthmkgfdglkdjmadGreatDoor
