/-
  Plain mathematics of chains of versions: what a key has ahead of a deed, one version more, one that is made, and without what is old.
  Plain mathematics: there are not so many keys, so right rows are not too many.
-/
import Derived.Test.YtdnafpenljdinadDoorMath
namespace Go.Proofs.YtdnafpenljdinadDoor
open Go.RowKit

/-- A version: by whom, whether it is made, whether the key has something, and what. -/
abbrev Ver := Int × Bool × Bool × Int
abbrev Ver.by_ (v : Ver) : Int := v.1
abbrev Ver.made (v : Ver) : Bool := v.2.1
abbrev Ver.has_ (v : Ver) : Bool := v.2.2.1
abbrev Ver.n (v : Ver) : Int := v.2.2.2
/-- A key and its versions. -/
abbrev Chn := ByteArray × List Ver
def ver0 : Ver := (-1, true, false, 0)
def newV (by_ : Int) : Ver := (by_, false, false, 0)

/-- The last one that is by somebody ahead. -/
def befV (by_ : Int) : List Ver → Ver → Ver
  | [], o => o
  | v :: l, o => befV by_ l (if v.by_ < by_ then v else o)
theorem befV_append (by_ : Int) : ∀ (a b : List Ver) (o : Ver), befV by_ (a ++ b) o = befV by_ b (befV by_ a o)
  | [], _, _ => rfl
  | _ :: a, b, _ => befV_append by_ a b _
/-- A key's versions. -/
def vsOf (k : ByteArray) : List Chn → List Ver
  | [] => []
  | c :: L => if c.1 = k then c.2 else vsOf k L
/-- As the document goes: through all chains. -/
def befC (k : ByteArray) (by_ : Int) : List Chn → Ver → Ver
  | [], o => o
  | c :: L, o => befC k by_ L (if c.1 = k then befV by_ c.2 o else o)
def before (L : List Chn) (k : ByteArray) (by_ : Int) : Ver := befV by_ (vsOf k L) ver0

def SrtC (L : List Chn) : Prop := L.Pairwise (fun x y => less x.1 y.1 = true)
theorem srtC_cons {x : Chn} {L : List Chn} : SrtC (x :: L) ↔ (∀ y ∈ L, less x.1 y.1 = true) ∧ SrtC L := List.pairwise_cons
theorem befC_none {k : ByteArray} {by_ : Int} : ∀ {L : List Chn} (o : Ver), (∀ c ∈ L, c.1 ≠ k) → befC k by_ L o = o
  | [], _, _ => rfl
  | c :: L, o, h => by
    rw [befC, if_neg (h c (by simp))]
    exact befC_none o (fun x hx => h x (by simp [hx]))
theorem befC_is {k : ByteArray} {by_ : Int} : ∀ {L : List Chn} (o : Ver), SrtC L → befC k by_ L o = befV by_ (vsOf k L) o
  | [], _, _ => rfl
  | c :: L, o, h => by
    obtain ⟨h1, h2⟩ := srtC_cons.1 h
    rw [befC, vsOf]
    by_cases e : c.1 = k
    · rw [if_pos e, if_pos e]
      exact befC_none _ (fun x hx e2 => less_ne (h1 x hx) (by rw [e, e2]))
    · rw [if_neg e, if_neg e]
      exact befC_is o h2

/-! ### One more -/
def addC (k : ByteArray) (by_ : Int) : List Chn → List Chn
  | [] => [(k, [newV by_])]
  | c :: L => if less k c.1 = true then (k, [newV by_]) :: c :: L else if c.1 = k then (k, c.2 ++ [newV by_]) :: L else c :: addC k by_ L
theorem vsOf_front {k : ByteArray} : ∀ {L : List Chn}, (∀ y ∈ L, less k y.1 = true) → vsOf k L = []
  | [], _ => rfl
  | c :: L, h => by
    rw [vsOf, if_neg (fun e => less_ne (h c (by simp)) e.symm)]
    exact vsOf_front (fun y hy => h y (by simp [hy]))
theorem vsOf_add (k : ByteArray) (by_ : Int) : ∀ (L : List Chn), SrtC L → vsOf k (addC k by_ L) = vsOf k L ++ [newV by_]
  | [], _ => by simp [addC, vsOf]
  | c :: L, h => by
    obtain ⟨h1, h2⟩ := srtC_cons.1 h
    rw [addC]
    by_cases e1 : less k c.1 = true
    · rw [if_pos e1]
      have : vsOf k (c :: L) = [] := vsOf_front (fun y hy => by
        rcases List.mem_cons.1 hy with rfl | hy
        · exact e1
        · exact less_trans e1 (h1 y hy))
      rw [this]
      simp [vsOf]
    · rw [if_neg e1]
      by_cases e2 : c.1 = k
      · rw [if_pos e2]; simp [vsOf, e2]
      · rw [if_neg e2, vsOf, if_neg e2, vsOf_add k by_ L h2, vsOf, if_neg e2]
theorem vsOf_add_other {k o : ByteArray} (by_ : Int) (hko : o ≠ k) : ∀ (L : List Chn), vsOf o (addC k by_ L) = vsOf o L
  | [] => by simp [addC, vsOf, Ne.symm hko]
  | c :: L => by
    rw [addC]
    by_cases e1 : less k c.1 = true
    · rw [if_pos e1, vsOf, if_neg (Ne.symm hko)]
    · rw [if_neg e1]
      by_cases e2 : c.1 = k
      · rw [if_pos e2, vsOf, vsOf, if_neg (Ne.symm hko), if_neg (by rw [e2]; exact Ne.symm hko)]
      · rw [if_neg e2, vsOf, vsOf, vsOf_add_other by_ hko L]

/-! ### One that is made -/
def setV (v : Ver) (l : List Ver) : List Ver := l.map (fun u => if u.by_ = v.by_ then v else u)
def setC (k : ByteArray) (v : Ver) (L : List Chn) : List Chn := L.map (fun c => if c.1 = k then (c.1, setV v c.2) else c)
theorem vsOf_set (k : ByteArray) (v : Ver) : ∀ (L : List Chn), vsOf k (setC k v L) = setV v (vsOf k L)
  | [] => rfl
  | c :: L => by
    show vsOf k ((if c.1 = k then (c.1, setV v c.2) else c) :: setC k v L) = _
    by_cases e : c.1 = k
    · rw [if_pos e, vsOf, vsOf, if_pos e, if_pos e]
    · rw [if_neg e, vsOf, vsOf, if_neg e, if_neg e, vsOf_set k v L]
theorem vsOf_set_other {k o : ByteArray} (v : Ver) (hko : o ≠ k) : ∀ (L : List Chn), vsOf o (setC k v L) = vsOf o L
  | [] => rfl
  | c :: L => by
    show vsOf o ((if c.1 = k then (c.1, setV v c.2) else c) :: setC k v L) = _
    by_cases e : c.1 = k
    · have ho : ¬ c.1 = o := by rw [e]; exact Ne.symm hko
      rw [if_pos e, vsOf, vsOf, if_neg ho, if_neg ho, vsOf_set_other v hko L]
    · rw [if_neg e, vsOf, vsOf, vsOf_set_other v hko L]
theorem setV_append (v : Ver) (a b : List Ver) : setV v (a ++ b) = setV v a ++ setV v b := by simp [setV]
theorem setV_none {v : Ver} : ∀ {l : List Ver}, (∀ u ∈ l, u.by_ ≠ v.by_) → setV v l = l
  | [], _ => rfl
  | u :: l, h => by
    show (if u.by_ = v.by_ then v else u) :: setV v l = _
    rw [if_neg (h u (by simp)), setV_none (fun x hx => h x (by simp [hx]))]

/-! ### What right chains are -/
structure RightV (v : Ver) : Prop where
  lo : -1 ≤ v.by_
  hi : v.by_ ≤ 1000000
  nlo : -1073741824 ≤ v.n
  nhi : v.n ≤ 1073741824
  zero : v.has_ = false → v.n = 0
  made : v.made = false → v.has_ = false
def Rise (l : List Ver) : Prop := l.Pairwise (fun x y => x.by_ < y.by_)
structure RightC (L : List Chn) : Prop where
  srt : SrtC L
  key : ∀ c ∈ L, keyB c.1 = true
  some_ : ∀ c ∈ L, c.2 ≠ []
  rise : ∀ c ∈ L, Rise c.2
  ver : ∀ c ∈ L, ∀ v ∈ c.2, RightV v
theorem rise_cons {x : Ver} {l : List Ver} : Rise (x :: l) ↔ (∀ y ∈ l, x.by_ < y.by_) ∧ Rise l := List.pairwise_cons
theorem vsOf_mem {k : ByteArray} : ∀ {L : List Chn}, vsOf k L ≠ [] → (k, vsOf k L) ∈ L
  | [], h => absurd rfl h
  | c :: L, h => by
    rw [vsOf] at h ⊢
    by_cases e : c.1 = k
    · rw [if_pos e]; rw [← e]; exact List.mem_cons_self
    · rw [if_neg e] at h ⊢; exact List.mem_cons_of_mem _ (vsOf_mem h)
theorem vsOf_rise {L : List Chn} (h : RightC L) (k : ByteArray) : Rise (vsOf k L) := by
  by_cases e : vsOf k L = []
  · rw [e]; exact List.Pairwise.nil
  · exact h.rise _ (vsOf_mem e)
theorem vsOf_ver {L : List Chn} (h : RightC L) (k : ByteArray) : ∀ v ∈ vsOf k L, RightV v := by
  by_cases e : vsOf k L = []
  · rw [e]; intro v hv; cases hv
  · exact h.ver _ (vsOf_mem e)

/-! ### Who is ahead sees nothing of it -/
theorem befV_high {at_ : Int} : ∀ {l : List Ver} (o : Ver), (∀ v ∈ l, at_ ≤ v.by_) → befV at_ l o = o
  | [], _, _ => rfl
  | v :: l, o, h => by
    have := h v (by simp)
    rw [befV, if_neg (by omega)]
    exact befV_high o (fun x hx => h x (by simp [hx]))
theorem add_other {L : List Chn} {k o : ByteArray} {by_ at_ : Int} (hs : SrtC L) (h : o = k → at_ ≤ by_) : before (addC k by_ L) o at_ = before L o at_ := by
  unfold before
  by_cases e : o = k
  · subst e
    rw [vsOf_add o by_ L hs, befV_append]
    exact befV_high _ (fun v hv => by simp at hv; rw [hv]; exact h rfl)
  · rw [vsOf_add_other by_ e L]
theorem add_own {L : List Chn} {k : ByteArray} {by_ : Int} (hs : SrtC L) : before (addC k by_ L) k (by_ + 1) = newV by_ := by
  unfold before
  rw [vsOf_add k by_ L hs, befV_append]
  show (if by_ < by_ + 1 then newV by_ else _) = _
  rw [if_pos (by omega)]
theorem befV_set {by_ at_ : Int} {v : Ver} (hv : v.by_ = by_) (h : at_ ≤ by_) : ∀ (l : List Ver) (o : Ver), befV at_ (setV v l) o = befV at_ l o
  | [], _ => rfl
  | u :: l, o => by
    show befV at_ ((if u.by_ = v.by_ then v else u) :: setV v l) o = _
    rw [befV, befV]
    by_cases e : u.by_ = v.by_
    · rw [if_pos e, if_neg (by omega), if_neg (by omega)]
      exact befV_set hv h l o
    · rw [if_neg e]
      exact befV_set hv h l _
theorem set_other_ver {L : List Chn} {k o : ByteArray} {v : Ver} {at_ : Int} (h : o = k → at_ ≤ v.by_) : before (setC k v L) o at_ = before L o at_ := by
  unfold before
  by_cases e : o = k
  · subst e
    rw [vsOf_set, befV_set rfl (h rfl)]
  · rw [vsOf_set_other v e]
theorem set_own {L : List Chn} {k : ByteArray} {v : Ver} (hs : SrtC L) : before (setC k v (addC k v.by_ L)) k (v.by_ + 1) = v := by
  unfold before
  rw [vsOf_set, vsOf_add k v.by_ L hs, setV_append, befV_append]
  have : setV v [newV v.by_] = [v] := by simp [setV, newV]
  rw [this]
  show (if v.by_ < v.by_ + 1 then v else _) = _
  rw [if_pos (by omega)]

/-! ### Without what is old -/
def laterV (by_ : Int) : List Ver → Bool
  | [] => false
  | u :: _ => decide (u.by_ < by_)
def clearV (by_ : Int) : List Ver → List Ver
  | [] => []
  | v :: l => if (laterV by_ l && decide (v.by_ < by_) || decide (v.by_ < by_) && v.made && !v.has_) = true then clearV by_ l else v :: clearV by_ l
def clearC (by_ : Int) : List Chn → List Chn
  | [] => []
  | c :: L => if clearV by_ c.2 = [] then clearC by_ L else (c.1, clearV by_ c.2) :: clearC by_ L
theorem clearV_sub (by_ : Int) : ∀ l, (clearV by_ l).Sublist l
  | [] => List.Sublist.slnil
  | v :: l => by
    rw [clearV]; split
    · exact (clearV_sub by_ l).cons v
    · exact (clearV_sub by_ l).cons_cons v
theorem clearV_high {by_ : Int} : ∀ {l : List Ver}, (∀ v ∈ l, by_ ≤ v.by_) → clearV by_ l = l
  | [], _ => rfl
  | v :: l, h => by
    have hv := h v (by simp)
    have hd : decide (v.by_ < by_) = false := by simpa using hv
    rw [clearV, if_neg (by rw [hd]; simp), clearV_high (fun x hx => h x (by simp [hx]))]
theorem clearC_mem {by_ : Int} {x : Chn} : ∀ {L : List Chn}, x ∈ clearC by_ L → ∃ c ∈ L, x.1 = c.1 ∧ x.2 = clearV by_ c.2 ∧ x.2 ≠ []
  | [], h => by cases h
  | c :: L, h => by
    rw [clearC] at h
    split at h
    · obtain ⟨c', h1, h2⟩ := clearC_mem h
      exact ⟨c', by simp [h1], h2⟩
    · rename_i hne
      rcases List.mem_cons.1 h with rfl | h
      · exact ⟨c, by simp, rfl, rfl, hne⟩
      · obtain ⟨c', h1, h2⟩ := clearC_mem h
        exact ⟨c', by simp [h1], h2⟩
theorem clearC_srt {by_ : Int} : ∀ {L : List Chn}, SrtC L → SrtC (clearC by_ L)
  | [], _ => List.Pairwise.nil
  | c :: L, h => by
    obtain ⟨h1, h2⟩ := srtC_cons.1 h
    rw [clearC]; split
    · exact clearC_srt h2
    · refine srtC_cons.2 ⟨fun y hy => ?_, clearC_srt h2⟩
      obtain ⟨c', m, e, _⟩ := clearC_mem hy
      rw [e]; exact h1 c' m
theorem clearC_right {by_ : Int} {L : List Chn} (h : RightC L) : RightC (clearC by_ L) := by
  refine ⟨clearC_srt h.srt, fun x hx => ?_, fun x hx => ?_, fun x hx => ?_, fun x hx v hv => ?_⟩
  · obtain ⟨c, m, e, _⟩ := clearC_mem hx; rw [e]; exact h.key c m
  · obtain ⟨c, m, _, _, e⟩ := clearC_mem hx; exact e
  · obtain ⟨c, m, _, e, _⟩ := clearC_mem hx; rw [e]; exact (h.rise c m).sublist (clearV_sub _ _)
  · obtain ⟨c, m, _, e, _⟩ := clearC_mem hx
    rw [e] at hv
    exact h.ver c m v ((clearV_sub _ _).subset hv)
theorem vsOf_clear {k : ByteArray} {by_ : Int} : ∀ {L : List Chn}, SrtC L → vsOf k (clearC by_ L) = clearV by_ (vsOf k L)
  | [], _ => rfl
  | c :: L, h => by
    obtain ⟨h1, h2⟩ := srtC_cons.1 h
    rw [clearC, vsOf]
    by_cases e : c.1 = k
    · rw [if_pos e]
      split
      · rename_i h0
        rw [h0]
        by_cases hv : vsOf k (clearC by_ L) = []
        · exact hv
        · obtain ⟨c', m, e2, _⟩ := clearC_mem (vsOf_mem hv)
          exact absurd (by rw [e, ← e2]) (less_ne (h1 c' m))
      · rw [vsOf, if_pos e]
    · rw [if_neg e]
      split
      · exact vsOf_clear h2
      · rw [vsOf, if_neg e]; exact vsOf_clear h2
/-- Seen with what is old, and without: the same, or nothing. -/
def Missed (a b : Ver) : Prop := a = b ∨ (a.made = true ∧ a.has_ = false ∧ b = ver0)
theorem missed_step {at_ : Int} : ∀ (l : List Ver) {a b : Ver}, Missed a b → Missed (befV at_ l a) (befV at_ l b)
  | [], _, _, h => h
  | v :: l, a, b, h => by
    rw [befV, befV]
    by_cases e : v.by_ < at_
    · rw [if_pos e, if_pos e]; exact .inl rfl
    · rw [if_neg e, if_neg e]; exact missed_step l h
theorem clear_missed {by_ at_ : Int} (hat : by_ ≤ at_) : ∀ (l : List Ver) {a : Ver}, Rise l → Missed a ver0 → Missed (befV at_ l a) (befV at_ (clearV by_ l) ver0)
  | [], _, _, h => h
  | v :: l, a, hr, h => by
    obtain ⟨h1, h2⟩ := rise_cons.1 hr
    by_cases hv : v.by_ < by_
    · have hva : v.by_ < at_ := by omega
      have hd : decide (v.by_ < by_) = true := by simpa using hv
      rw [befV, if_pos hva, clearV]
      cases hl : laterV by_ l with
      | true =>
        rw [if_pos (by rw [hd]; simp)]
        have : befV at_ l v = befV at_ l a := by
          cases l with
          | nil => cases hl
          | cons u l =>
            have hu : u.by_ < by_ := by simpa [laterV] using hl
            rw [befV, befV, if_pos (by omega), if_pos (by omega)]
        rw [this]
        exact clear_missed hat l h2 h
      | false =>
        have hh : ∀ u ∈ l, by_ ≤ u.by_ := by
          cases l with
          | nil => intro u hu; cases hu
          | cons x l =>
            have hx : by_ ≤ x.by_ := by simpa [laterV] using hl
            intro u hu
            rcases List.mem_cons.1 hu with rfl | hu
            · exact hx
            · have := (rise_cons.1 h2).1 u hu; omega
        rw [hd]
        simp only [Bool.false_and, Bool.false_or, Bool.true_and]
        rw [clearV_high hh]
        by_cases hm : (v.made && !v.has_) = true
        · rw [if_pos hm]
          simp only [Bool.and_eq_true, Bool.not_eq_true'] at hm
          exact missed_step l (.inr ⟨hm.1, hm.2, rfl⟩)
        · rw [if_neg hm, befV, if_pos hva]
          exact .inl rfl
    · have hh : ∀ u ∈ v :: l, by_ ≤ u.by_ := fun u hu => by
        rcases List.mem_cons.1 hu with rfl | hu
        · omega
        · have := h1 u hu; omega
      rw [clearV_high hh]
      exact missed_step _ h
theorem clear_before {L : List Chn} (h : RightC L) {by_ at_ : Int} (hat : by_ ≤ at_) (k : ByteArray) : Missed (before L k at_) (before (clearC by_ L) k at_) := by
  unfold before
  rw [vsOf_clear h.srt]
  exact clear_missed hat _ (vsOf_rise h k) (.inl rfl)
/-- How many versions there are. -/
def sizeC : List Chn → Nat
  | [] => 0
  | c :: L => c.2.length + sizeC L
theorem clear_size (by_ : Int) : ∀ L, sizeC (clearC by_ L) ≤ sizeC L
  | [] => Nat.le_refl _
  | c :: L => by
    have h1 := clear_size by_ L
    have h2 := (clearV_sub by_ c.2).length_le
    rw [clearC]; split
    · simp only [sizeC]; omega
    · simp only [sizeC]; omega
end Go.Proofs.YtdnafpenljdinadDoor

namespace Go.Proofs.YtdnafpenljdinadDoor
open Go.RowKit

/-- A key's number, in n digits of 27. -/
def rank : Nat → List UInt8 → Nat
  | 0, _ => 0
  | _ + 1, [] => 0
  | n + 1, c :: l => (c.toNat - 96) * 27 ^ n + rank n l

theorem okc_bounds {c : UInt8} (h : okc c = true) : 97 ≤ c.toNat ∧ c.toNat ≤ 122 := by
  simp [okc] at h; omega
theorem rank_lt : ∀ (n : Nat) (l : List UInt8), l.all okc = true → rank n l < 27 ^ n
  | 0, _, _ => by simp [rank]
  | n + 1, [], _ => by simp only [rank]; exact Nat.pow_pos (by decide)
  | n + 1, c :: l, h => by
    simp only [List.all_cons, Bool.and_eq_true] at h
    have h1 := okc_bounds h.1
    have h2 := rank_lt n l h.2
    have h3 : (c.toNat - 96) * 27 ^ n ≤ 26 * 27 ^ n := Nat.mul_le_mul_right _ (by omega)
    simp only [rank, Nat.pow_succ]
    omega
theorem rank_mono : ∀ (n : Nat) (a b : List UInt8), a.all okc = true → b.all okc = true → b.length ≤ n → a < b → rank n a < rank n b
  | n, a, [], _, _, _, h => absurd h (List.not_lt_nil a)
  | 0, _, c :: b, _, _, hl, _ => by simp at hl
  | n + 1, [], c :: b, _, hb, _, _ => by
    simp only [List.all_cons, Bool.and_eq_true] at hb
    have h1 := okc_bounds hb.1
    have h3 : 1 * 27 ^ n ≤ (c.toNat - 96) * 27 ^ n := Nat.mul_le_mul_right _ (by omega)
    have h4 : 0 < 27 ^ n := Nat.pow_pos (by decide)
    simp only [rank]
    omega
  | n + 1, d :: a, c :: b, ha, hb, hl, h => by
    simp only [List.all_cons, Bool.and_eq_true] at ha hb
    have h1 := okc_bounds hb.1
    have h2 := okc_bounds ha.1
    rcases List.cons_lt_cons_iff.1 h with h' | ⟨rfl, h'⟩
    · have hlt : d.toNat < c.toNat := UInt8.lt_iff_toNat_lt.1 h'
      have h3 : (d.toNat - 96 + 1) * 27 ^ n ≤ (c.toNat - 96) * 27 ^ n := Nat.mul_le_mul_right _ (by omega)
      have h4 := rank_lt n a ha.2
      rw [Nat.add_mul] at h3
      simp only [rank]
      omega
    · have := rank_mono n a b ha.2 hb.2 (by simpa using hl) h'
      simp only [rank]
      omega
theorem keyB_list {s : ByteArray} (h : keyB s = true) : s.toList.all okc = true ∧ s.toList.length ≤ 6 := by
  unfold keyB at h
  simp only [Bool.and_eq_true, decide_eq_true_eq] at h
  rw [ByteArray.toList_eq]
  exact ⟨h.2, by have := h.1.2; show s.data.toList.length ≤ 6; rw [Array.length_toList]; exact this⟩
theorem rank_key {s : ByteArray} (h : keyB s = true) : rank 6 s.toList < 387420489 := rank_lt 6 _ (keyB_list h).1
theorem rank_less {a b : ByteArray} (ha : keyB a = true) (hb : keyB b = true) (h : less a b = true) : rank 6 a.toList < rank 6 b.toList := by
  rw [less_def] at h
  exact rank_mono 6 _ _ (keyB_list ha).1 (keyB_list hb).1 (keyB_list hb).2 (of_decide_eq_true h)
theorem few_above : ∀ (l : List Row) (lo : Nat), lo ≤ 387420489 → Srt l → (∀ x ∈ l, keyB x.1 = true) → (∀ x ∈ l, lo ≤ rank 6 x.1.toList) → lo + l.length ≤ 387420489
  | [], lo, h, _, _, _ => by simpa using h
  | x :: l, lo, h, hs, hk, hr => by
    obtain ⟨h1, h2⟩ := srt_cons.1 hs
    have hx := hk x (by simp)
    have hlt := rank_key hx
    have := few_above l (rank 6 x.1.toList + 1) (by omega) h2 (fun y hy => hk y (by simp [hy])) (fun y hy => rank_less hx (hk y (by simp [hy])) (h1 y hy))
    have := hr x (by simp)
    simp only [List.length_cons]
    omega
/-- Right rows are not too many. -/
theorem right_few {l : List Row} (h : Right l) : l.length ≤ 387420489 := by
  have := few_above l 0 (by omega) h.srt h.key (fun _ _ => Nat.zero_le _)
  omega
end Go.Proofs.YtdnafpenljdinadDoor
