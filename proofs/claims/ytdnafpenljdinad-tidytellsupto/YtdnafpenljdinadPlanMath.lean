/-
  Plain mathematics of plans: what is wrong with deeds that come, that who comes later changes nothing ahead, and that one of those that wait needs nobody.
-/
import Derived.Test.YtdnafpenljdinadEngFit
import Derived.Test.YtdnafpenljdinadRefMath
namespace Go.Proofs.Ytdnafpenljdinad
open Go.RowKit

/-! ### Deeds that come -/
/-- What is wrong with the first one that is wrong. -/
def wDs : List Deed3 → Int
  | [] => 0
  | d :: l => if wDeed d.1 d.2.1 d.2.2 = 0 then wDs l else wDeed d.1 d.2.1 d.2.2
theorem wDs_right : ∀ {l : List Deed3}, wDs l = 0 → RightDs l
  | [], _, _, h => by cases h
  | d :: l, h, x, hx => by
    rw [wDs] at h
    by_cases h0 : wDeed d.1 d.2.1 d.2.2 = 0
    · rw [if_pos h0] at h
      rcases List.mem_cons.1 hx with rfl | hx
      · exact right_deed h0
      · exact wDs_right h x hx
    · rw [if_neg h0] at h; exact absurd h h0
theorem wDs_of : ∀ {l : List Deed3}, RightDs l → wDs l = 0
  | [], _ => rfl
  | d :: l, h => by
    rw [wDs, if_pos (right_wDeed (h d (by simp)))]
    exact wDs_of (fun x hx => h x (by simp [hx]))
theorem wDs_first : ∀ {l : List Deed3} {j : Nat}, j < l.length → RightDs (l.take j) → wDeed (l.getD j default).1 (l.getD j default).2.1 (l.getD j default).2.2 ≠ 0 → wDs l = wDeed (l.getD j default).1 (l.getD j default).2.1 (l.getD j default).2.2
  | [], _, h, _, _ => absurd h (Nat.not_lt_zero _)
  | d :: l, 0, _, _, h => by
    have h' : wDeed d.1 d.2.1 d.2.2 ≠ 0 := by simpa using h
    rw [wDs, if_neg h']; simp
  | d :: l, j + 1, hj, hr, h => by
    rw [wDs, if_pos (right_wDeed (hr d (by simp)))]
    have := wDs_first (l := l) (j := j) (by simpa using hj) (fun x hx => hr x (by simp [hx])) (by simpa using h)
    simpa using this
theorem rights_next {l : List Deed3} {j : Nat} (hj : j < l.length) (h : RightDs (l.take j)) (h2 : wDeed (l.getD j default).1 (l.getD j default).2.1 (l.getD j default).2.2 = 0) : RightDs (l.take (j + 1)) := fun d hd => by
  rw [take_snoc_getD hj] at hd
  rcases List.mem_append.1 hd with h3 | h3
  · exact h d h3
  · simp only [List.mem_singleton] at h3
    rw [h3]; exact right_deed h2
def zeroEng : Eng := ⟨[], [], [], [], 0⟩
theorem addAll_snoc (e : Eng) (l : List Deed3) (d : Deed3) : addAll e (l ++ [d]) = addD (addAll e l) d := by simp [addAll]
theorem addAll_base (e : Eng) : ∀ l : List Deed3, (addAll e l).base = e.base := fun l => by
  induction l generalizing e with
  | nil => rfl
  | cons d l ih => exact ih (addD e d)
theorem addAll_deeds (e : Eng) : ∀ l : List Deed3, (addAll e l).deeds = e.deeds ++ l := fun l => by
  induction l generalizing e with
  | nil => simp [addAll]
  | cons d l ih =>
    have := ih (addD e d)
    show (addAll (addD e d) l).deeds = _
    rw [this]
    show (e.deeds ++ [d]) ++ l = _
    simp

/-! ### Who comes later changes nothing ahead -/
theorem writes_append_all {D l : List Deed3} {k : ByteArray} {i : Nat} (h : i < D.length) : writes (D ++ l) k i = writes D k i := by
  unfold writes; simp [List.getD, List.getElem?_append_left h]
theorem newsV_ahead {r0 : List Row} {D l : List Deed3} {dn : Nat → Bool} {k : ByteArray} {a n : Nat} (h : a + n ≤ D.length) : newsV r0 (D ++ l) dn k a n = newsV r0 D dn k a n := by
  unfold newsV
  have hf : (List.range' a n).filter (writes (D ++ l) k) = (List.range' a n).filter (writes D k) := by
    refine List.filter_congr fun i hi => ?_
    have := List.mem_range'_1.1 hi
    exact writes_append_all (by omega)
  rw [hf]
  refine List.map_congr_left fun i hi => ?_
  have := List.mem_range'_1.1 (List.mem_filter.1 hi).1
  unfold verI
  rw [seqR_append (by omega)]
theorem before_ahead {r0 : List Row} {D l : List Deed3} {m : Nat} {dn : Nat → Bool} {b : ByteArray → Int} {e x : Eng} (G : Good r0 D m dn b e) (X : Good r0 (D ++ l) m dn b x) {n : Nat} (hn : m + n ≤ D.length) (k : ByteArray) : before x.chains k ((m + n : Nat) : Int) = before e.chains k ((m + n : Nat) : Int) := by
  rw [seen_of G hn k, seen_of X (by simp; omega) k]
  unfold seenV
  rw [newsV_ahead hn]
  congr 1
  unfold oldV
  rw [seqR_append G.le]
theorem needs_ahead {r0 : List Row} {D l : List Deed3} {m : Nat} {dn : Nat → Bool} {b : ByteArray → Int} {e x : Eng} (G : Good r0 D m dn b e) (X : Good r0 (D ++ l) m dn b x) {p : Nat} (hp : m + p < D.length) : needsE x p = needsE e p := by
  unfold needsE
  refine List.filter_congr fun j _ => ?_
  unfold needE
  have hd : x.deeds.getD p default = e.deeds.getD p default := by
    rw [X.deed, G.deed]
    simp [List.getD, List.getElem?_append_left hp]
  rw [hd, X.at_, G.at_, X.at_, G.at_]
  refine congrArg (fun f => List.any (keysD (e.deeds.getD p default)) f) (funext fun k => ?_)
  rw [before_ahead G X (by omega) k]
theorem no_key {L : List Chn} {k : ByteArray} (h : hasKey L k = false) (at_ : Int) : before L k at_ = ver0 := by
  unfold before
  rw [vsOf_noKey h]
  rfl
theorem rowsC_ext {L M : List Chn} {at_ : Int} (hL : SrtC L) (hM : SrtC M) (h : ∀ k, before L k at_ = before M k at_) : rowsC L at_ = rowsC M at_ := by
  have made_key : ∀ {L : List Chn} {k : ByteArray}, (before L k at_).made = false → ∃ c ∈ L, c.1 = k := fun {L k} hm => by
    cases hk : hasKey L k with
    | true =>
      obtain ⟨c, hc, he⟩ := List.any_eq_true.1 hk
      exact ⟨c, hc, of_decide_eq_true he⟩
    | false => rw [no_key hk] at hm; cases hm
  by_cases hall : ∀ k, (before L k at_).made = true
  · obtain ⟨r, e1, i1⟩ := rowsGo_is L at_ L hL (fun c _ => hall c.1)
    obtain ⟨s, e2, i2⟩ := rowsGo_is M at_ M hM (fun c _ => by rw [← h]; exact hall c.1)
    show rowsGo L at_ L = rowsGo M at_ M
    have both : ∀ {L : List Chn} {k : ByteArray}, (hasKey L k && (before L k at_).has_) = (before L k at_).has_ := fun {L k} => by
      cases hk : hasKey L k with
      | true => simp
      | false => rw [no_key hk]; rfl
    rw [e1, e2, srt_ext i1.srt i2.srt (fun k => by rw [i1.is, i2.is, both, both, h]) (fun k => by rw [i1.n, i2.n, both, both, h])]
  · simp only [Classical.not_forall] at hall
    obtain ⟨k, hk⟩ := hall
    have hk' : (before L k at_).made = false := by simpa using hk
    obtain ⟨c, hc, e⟩ := made_key hk'
    have hkM : (before M k at_).made = false := by rw [← h]; exact hk'
    obtain ⟨d, hd, e'⟩ := made_key hkM
    show rowsGo L at_ L = rowsGo M at_ M
    rw [rowsGo_none L at_ L hc (by rw [e]; exact hk'), rowsGo_none M at_ M hd (by rw [e']; exact hkM)]
theorem rows_ahead {r0 : List Row} {D l : List Deed3} {m : Nat} {dn : Nat → Bool} {b : ByteArray → Int} {e x : Eng} (G : Good r0 D m dn b e) (X : Good r0 (D ++ l) m dn b x) {n : Nat} (hn : m + n ≤ D.length) : rowsC x.chains (x.base + n) = rowsC e.chains (e.base + n) := by
  rw [X.at_, G.at_]
  exact rowsC_ext X.srt G.srt (fun k => before_ahead G X hn k)

/-! ### Who waits -/
def waitsTo (e : Eng) (j : Nat) : Bool := (List.range j).any fun p => decide (e.state.getD p 0 = 0)
def freeTo (e : Eng) (j : Nat) : Bool := (List.range j).any fun p => decide (e.state.getD p 0 = 0) && (needsE e p).isEmpty
theorem waitsTo_succ (e : Eng) (j : Nat) : waitsTo e (j + 1) = (waitsTo e j || decide (e.state.getD j 0 = 0)) := by simp [waitsTo, List.range_succ]
theorem freeTo_succ (e : Eng) (j : Nat) : freeTo e (j + 1) = (freeTo e j || (decide (e.state.getD j 0 = 0) && (needsE e j).isEmpty)) := by simp [freeTo, List.range_succ]
theorem one_free {r0 : List Row} {D : List Deed3} {m : Nat} {dn : Nat → Bool} {b : ByteArray → Int} {e : Eng} (G : Good r0 D m dn b e) : (freeTo e e.deeds.length || !waitsTo e e.deeds.length) = true := by
  cases hw : waitsTo e e.deeds.length with
  | false => simp
  | true =>
    obtain ⟨p, hp, h0⟩ := List.any_eq_true.1 hw
    have hpl : p < e.deeds.length := List.mem_range.1 hp
    have hpD : m + p < D.length := by rw [G.len] at hpl; omega
    have hz : dn (m + p) = false := by
      have := of_decide_eq_true h0
      rw [G.state_at hpD] at this
      cases h : dn (m + p) with
      | false => rfl
      | true => rw [h] at this; cases this
    have hne := some_ready G (i := m + p) (by omega) hpD hz
    obtain ⟨q, hq⟩ := List.exists_mem_of_ne_nil _ hne
    unfold readyE at hq
    obtain ⟨q1, q2⟩ := List.mem_filter.1 hq
    have : freeTo e e.deeds.length = true := List.any_eq_true.2 ⟨q, q1, q2⟩
    rw [this]; rfl
theorem need_waits {r0 : List Row} {D : List Deed3} {m : Nat} {dn : Nat → Bool} {b : ByteArray → Int} {e : Eng} (G : Good r0 D m dn b e) {p : Nat} (hp : m + p < D.length) {j : Nat} (hj : j ∈ needsE e p) : j < p ∧ e.state.getD j 0 = 0 := by
  obtain ⟨h1, h2⟩ := need_back G hp hj
  refine ⟨h1, ?_⟩
  rw [G.state_at (by omega), h2]
  rfl

/-! ### What a deed sees is right -/
theorem getD_in {α : Type} [Inhabited α] {l : List α} {j : Nat} (h : j < l.length) : l.getD j default ∈ l := by simp [List.getD, h]
theorem sees_right {r0 : List Row} {D : List Deed3} {m : Nat} {dn : Nat → Bool} {b : ByteArray → Int} {e : Eng} (G : Good r0 D m dn b e) {p : Nat} (hp : m + p < D.length) (hn : needsE e p = []) : ∀ j, Right (((keysD (e.deeds.getD p default)).take j).foldl (seesK e.chains (e.base + p)) []) := by
  have hkey : ∀ k ∈ keysD (e.deeds.getD p default), keyB k = true ∧ ((before e.chains k (e.base + p)).has_ = true → InR (before e.chains k (e.base + p)).n) := fun k hk => by
    have hd := rights_at G.right hp
    rw [G.deed] at hk
    refine ⟨?_, fun _ => ?_⟩
    · rcases keysD_mem.1 hk with h | h
      · exact wKeys_key hd.r h
      · exact wKeys_key hd.w h
    · have hm := (needs_nil G hp).1 hn k hk
      obtain ⟨_, e2⟩ := (G.seen (n := p) (by omega) k).yes hm
      rw [G.at_, e2]
      exact num_inR (seqR_right G.rows G.right _) k
  intro j
  induction j with
  | zero => exact right_of rfl
  | succ j ih =>
    by_cases hj : j < (keysD (e.deeds.getD p default)).length
    · rw [take_snoc_getD hj, List.foldl_append, List.foldl_cons, List.foldl_nil]
      obtain ⟨h1, h2⟩ := hkey ((keysD (e.deeds.getD p default)).getD j default) (getD_in hj)
      unfold seesK
      split
      · rename_i hh
        exact right_ins ih h1 (h2 hh).1 (h2 hh).2
      · exact ih
    · rw [List.take_of_length_le (by omega)]
      rw [List.take_of_length_le (by omega)] at ih
      exact ih
theorem keysD_len {d : Deed3} (h : RightDD d) : (keysD d).length ≤ 10 := by
  rw [← keysP_is (wKeys_nodup h.r) (wKeys_nodup h.w)]
  unfold keysP
  have h1 := wKeys_len h.r
  have h2 := wKeys_len h.w
  have h3 := List.length_filter_le (fun k => !has d.1 k) d.2.1
  rw [List.length_append]
  omega
theorem sees_len (L : List Chn) (at_ : Int) : ∀ (K : List ByteArray) (r : List Row), (K.foldl (seesK L at_) r).length ≤ r.length + K.length
  | [], r => Nat.le_refl _
  | k :: K, r => by
    have h1 := sees_len L at_ K (seesK L at_ r k)
    have h2 : (seesK L at_ r k).length ≤ r.length + 1 := by
      unfold seesK
      split
      · exact ins_length _ _ _
      · omega
    rw [List.foldl_cons, List.length_cons]
    omega
end Go.Proofs.Ytdnafpenljdinad
