/-
  Plain mathematics of chains of versions: what a key has ahead of a deed, one version more, one that is made, and without what is old.
  Plain mathematics: there are not so many keys, so right rows are not too many.
  Plain mathematics of chains as the program goes: the place of a key, how many versions are ahead, and what of it comes to what the document says.
-/
import Derived.Test.YtlhaeeenkgkdaaaGreatDoorTextMath
namespace Go.Proofs.YtlhaeeenkgkdaaaGreatDoor
open Go.RowKit

abbrev Ver := Int × Bool × Bool × Int
abbrev Ver.by_ (v : Ver) : Int := v.1
abbrev Ver.made (v : Ver) : Bool := v.2.1
abbrev Ver.has_ (v : Ver) : Bool := v.2.2.1
abbrev Ver.n (v : Ver) : Int := v.2.2.2
abbrev Chn := ByteArray × List Ver
def ver0 : Ver := (-1, true, false, 0)
def newV (by_ : Int) : Ver := (by_, false, false, 0)

def befV (by_ : Int) : List Ver → Ver → Ver
 | [], o => o
 | v :: l, o => befV by_ l (if v.by_ < by_ then v else o)
theorem befV_append (by_ : Int) : ∀ (a b : List Ver) (o : Ver), befV by_ (a ++ b) o = befV by_ b (befV by_ a o)
 | [], _, _ => rfl
 | _ :: a, b, _ => befV_append by_ a b _
def vsOf (k : ByteArray) : List Chn → List Ver
 | [] => []
 | c :: L => if c.1 = k then c.2 else vsOf k L
def befC (k : ByteArray) (by_ : Int) : List Chn → Ver → Ver
 | [], o => o
 | c :: L, o => befC k by_ L (if c.1 = k then befV by_ c.2 o else o)
def before (L : List Chn) (k : ByteArray) (by_ : Int) : Ver := befV by_ (vsOf k L) ver0

def SrtC (L : List Chn) : Prop := L.Pairwise (fun x y => less x.1 y.1 = true)
theorem srtC_cons {x : Chn} {L : List Chn} : SrtC (x :: L) ↔ (∀ y ∈ L, less x.1 y.1 = true) ∧ SrtC L := List.pairwise_cons
theorem befC_none {k : ByteArray} {by_ : Int} : ∀ {L : List Chn} (o : Ver), (∀ c ∈ L, c.1 ≠ k) → befC k by_ L o = o
 | [], _, _ => rfl
 | c :: L, o, h => by
   rw [befC, if_neg (h c (by simp))]
   exact befC_none o (fun x hx => h x (by simp [hx]))
theorem befC_is {k : ByteArray} {by_ : Int} : ∀ {L : List Chn} (o : Ver), SrtC L → befC k by_ L o = befV by_ (vsOf k L) o
 | [], _, _ => rfl
 | c :: L, o, h => by
   obtain ⟨h1, h2⟩ := srtC_cons.1 h
   rw [befC, vsOf]
   by_cases e : c.1 = k
   · rw [if_pos e, if_pos e]
     exact befC_none _ (fun x hx e2 => less_ne (h1 x hx) (by rw [e, e2]))
   · rw [if_neg e, if_neg e]
     exact befC_is o h2

def addC (k : ByteArray) (by_ : Int) : List Chn → List Chn
 | [] => [(k, [newV by_])]
 | c :: L => if less k c.1 = true then (k, [newV by_]) :: c :: L else if c.1 = k then (k, c.2 ++ [newV by_]) :: L else c :: addC k by_ L
theorem vsOf_front {k : ByteArray} : ∀ {L : List Chn}, (∀ y ∈ L, less k y.1 = true) → vsOf k L = []
 | [], _ => rfl
 | c :: L, h => by
   rw [vsOf, if_neg (fun e => less_ne (h c (by simp)) e.symm)]
   exact vsOf_front (fun y hy => h y (by simp [hy]))
theorem vsOf_add (k : ByteArray) (by_ : Int) : ∀ (L : List Chn), SrtC L → vsOf k (addC k by_ L) = vsOf k L ++ [newV by_]
 | [], _ => by simp [addC, vsOf]
 | c :: L, h => by
   obtain ⟨h1, h2⟩ := srtC_cons.1 h
   rw [addC]
   by_cases e1 : less k c.1 = true
   · rw [if_pos e1]
     have : vsOf k (c :: L) = [] := vsOf_front (fun y hy => by
       rcases List.mem_cons.1 hy with rfl | hy
       · exact e1
       · exact less_trans e1 (h1 y hy))
     rw [this]
     simp [vsOf]
   · rw [if_neg e1]
     by_cases e2 : c.1 = k
     · rw [if_pos e2]; simp [vsOf, e2]
     · rw [if_neg e2, vsOf, if_neg e2, vsOf_add k by_ L h2, vsOf, if_neg e2]
theorem vsOf_add_other {k o : ByteArray} (by_ : Int) (hko : o ≠ k) : ∀ (L : List Chn), vsOf o (addC k by_ L) = vsOf o L
 | [] => by simp [addC, vsOf, Ne.symm hko]
 | c :: L => by
   rw [addC]
   by_cases e1 : less k c.1 = true
   · rw [if_pos e1, vsOf, if_neg (Ne.symm hko)]
   · rw [if_neg e1]
     by_cases e2 : c.1 = k
     · rw [if_pos e2, vsOf, vsOf, if_neg (Ne.symm hko), if_neg (by rw [e2]; exact Ne.symm hko)]
     · rw [if_neg e2, vsOf, vsOf, vsOf_add_other by_ hko L]

def setV (v : Ver) (l : List Ver) : List Ver := l.map (fun u => if u.by_ = v.by_ then v else u)
def setC (k : ByteArray) (v : Ver) (L : List Chn) : List Chn := L.map (fun c => if c.1 = k then (c.1, setV v c.2) else c)
theorem vsOf_set (k : ByteArray) (v : Ver) : ∀ (L : List Chn), vsOf k (setC k v L) = setV v (vsOf k L)
 | [] => rfl
 | c :: L => by
   show vsOf k ((if c.1 = k then (c.1, setV v c.2) else c) :: setC k v L) = _
   by_cases e : c.1 = k
   · rw [if_pos e, vsOf, vsOf, if_pos e, if_pos e]
   · rw [if_neg e, vsOf, vsOf, if_neg e, if_neg e, vsOf_set k v L]
theorem vsOf_set_other {k o : ByteArray} (v : Ver) (hko : o ≠ k) : ∀ (L : List Chn), vsOf o (setC k v L) = vsOf o L
 | [] => rfl
 | c :: L => by
   show vsOf o ((if c.1 = k then (c.1, setV v c.2) else c) :: setC k v L) = _
   by_cases e : c.1 = k
   · have ho : ¬ c.1 = o := by rw [e]; exact Ne.symm hko
     rw [if_pos e, vsOf, vsOf, if_neg ho, if_neg ho, vsOf_set_other v hko L]
   · rw [if_neg e, vsOf, vsOf, vsOf_set_other v hko L]
theorem setV_append (v : Ver) (a b : List Ver) : setV v (a ++ b) = setV v a ++ setV v b := by simp [setV]
theorem setV_none {v : Ver} : ∀ {l : List Ver}, (∀ u ∈ l, u.by_ ≠ v.by_) → setV v l = l
 | [], _ => rfl
 | u :: l, h => by
   show (if u.by_ = v.by_ then v else u) :: setV v l = _
   rw [if_neg (h u (by simp)), setV_none (fun x hx => h x (by simp [hx]))]

def Rise (l : List Ver) : Prop := l.Pairwise (fun x y => x.by_ < y.by_)
theorem rise_cons {x : Ver} {l : List Ver} : Rise (x :: l) ↔ (∀ y ∈ l, x.by_ < y.by_) ∧ Rise l := List.pairwise_cons
theorem vsOf_mem {k : ByteArray} : ∀ {L : List Chn}, vsOf k L ≠ [] → (k, vsOf k L) ∈ L
 | [], h => absurd rfl h
 | c :: L, h => by
   rw [vsOf] at h ⊢
   by_cases e : c.1 = k
   · rw [if_pos e]; rw [← e]; exact List.mem_cons_self
   · rw [if_neg e] at h ⊢; exact List.mem_cons_of_mem _ (vsOf_mem h)
theorem befV_high {at_ : Int} : ∀ {l : List Ver} (o : Ver), (∀ v ∈ l, at_ ≤ v.by_) → befV at_ l o = o
 | [], _, _ => rfl
 | v :: l, o, h => by
   have := h v (by simp)
   rw [befV, if_neg (by omega)]
   exact befV_high o (fun x hx => h x (by simp [hx]))
def laterV (by_ : Int) : List Ver → Bool
 | [] => false
 | u :: _ => decide (u.by_ < by_)
def clearV (by_ : Int) : List Ver → List Ver
 | [] => []
 | v :: l => if (laterV by_ l && decide (v.by_ < by_) || decide (v.by_ < by_) && v.made && !v.has_) = true then clearV by_ l else v :: clearV by_ l
def clearC (by_ : Int) : List Chn → List Chn
 | [] => []
 | c :: L => if clearV by_ c.2 = [] then clearC by_ L else (c.1, clearV by_ c.2) :: clearC by_ L
theorem clearV_sub (by_ : Int) : ∀ l, (clearV by_ l).Sublist l
 | [] => List.Sublist.slnil
 | v :: l => by
   rw [clearV]; split
   · exact (clearV_sub by_ l).cons v
   · exact (clearV_sub by_ l).cons_cons v
theorem clearV_high {by_ : Int} : ∀ {l : List Ver}, (∀ v ∈ l, by_ ≤ v.by_) → clearV by_ l = l
 | [], _ => rfl
 | v :: l, h => by
   have hv := h v (by simp)
   have hd : decide (v.by_ < by_) = false := by simpa using hv
   rw [clearV, if_neg (by rw [hd]; simp), clearV_high (fun x hx => h x (by simp [hx]))]
theorem clearC_mem {by_ : Int} {x : Chn} : ∀ {L : List Chn}, x ∈ clearC by_ L → ∃ c ∈ L, x.1 = c.1 ∧ x.2 = clearV by_ c.2 ∧ x.2 ≠ []
 | [], h => by cases h
 | c :: L, h => by
   rw [clearC] at h
   split at h
   · obtain ⟨c', h1, h2⟩ := clearC_mem h
     exact ⟨c', by simp [h1], h2⟩
   · rename_i hne
     rcases List.mem_cons.1 h with rfl | h
     · exact ⟨c, by simp, rfl, rfl, hne⟩
     · obtain ⟨c', h1, h2⟩ := clearC_mem h
       exact ⟨c', by simp [h1], h2⟩
theorem clearC_srt {by_ : Int} : ∀ {L : List Chn}, SrtC L → SrtC (clearC by_ L)
 | [], _ => List.Pairwise.nil
 | c :: L, h => by
   obtain ⟨h1, h2⟩ := srtC_cons.1 h
   rw [clearC]; split
   · exact clearC_srt h2
   · refine srtC_cons.2 ⟨fun y hy => ?_, clearC_srt h2⟩
     obtain ⟨c', m, e, _⟩ := clearC_mem hy
     rw [e]; exact h1 c' m
theorem vsOf_clear {k : ByteArray} {by_ : Int} : ∀ {L : List Chn}, SrtC L → vsOf k (clearC by_ L) = clearV by_ (vsOf k L)
 | [], _ => rfl
 | c :: L, h => by
   obtain ⟨h1, h2⟩ := srtC_cons.1 h
   rw [clearC, vsOf]
   by_cases e : c.1 = k
   · rw [if_pos e]
     split
     · rename_i h0
       rw [h0]
       by_cases hv : vsOf k (clearC by_ L) = []
       · exact hv
       · obtain ⟨c', m, e2, _⟩ := clearC_mem (vsOf_mem hv)
         exact absurd (by rw [e, ← e2]) (less_ne (h1 c' m))
     · rw [vsOf, if_pos e]
   · rw [if_neg e]
     split
     · exact vsOf_clear h2
     · rw [vsOf, if_neg e]; exact vsOf_clear h2
end Go.Proofs.YtlhaeeenkgkdaaaGreatDoor

namespace Go.Proofs.YtlhaeeenkgkdaaaGreatDoor
open Go.RowKit

def rank : Nat → List UInt8 → Nat
 | 0, _ => 0
 | _ + 1, [] => 0
 | n + 1, c :: l => (c.toNat - 96) * 27 ^ n + rank n l

theorem okc_bounds {c : UInt8} (h : okc c = true) : 97 ≤ c.toNat ∧ c.toNat ≤ 122 := by
 simp [okc] at h; omega
theorem rank_lt : ∀ (n : Nat) (l : List UInt8), l.all okc = true → rank n l < 27 ^ n
 | 0, _, _ => by simp [rank]
 | n + 1, [], _ => by simp only [rank]; exact Nat.pow_pos (by decide)
 | n + 1, c :: l, h => by
   simp only [List.all_cons, Bool.and_eq_true] at h
   have h1 := okc_bounds h.1
   have h2 := rank_lt n l h.2
   have h3 : (c.toNat - 96) * 27 ^ n ≤ 26 * 27 ^ n := Nat.mul_le_mul_right _ (by omega)
   simp only [rank, Nat.pow_succ]
   omega
theorem rank_mono : ∀ (n : Nat) (a b : List UInt8), a.all okc = true → b.all okc = true → b.length ≤ n → a < b → rank n a < rank n b
 | n, a, [], _, _, _, h => absurd h (List.not_lt_nil a)
 | 0, _, c :: b, _, _, hl, _ => by simp at hl
 | n + 1, [], c :: b, _, hb, _, _ => by
   simp only [List.all_cons, Bool.and_eq_true] at hb
   have h1 := okc_bounds hb.1
   have h3 : 1 * 27 ^ n ≤ (c.toNat - 96) * 27 ^ n := Nat.mul_le_mul_right _ (by omega)
   have h4 : 0 < 27 ^ n := Nat.pow_pos (by decide)
   simp only [rank]
   omega
 | n + 1, d :: a, c :: b, ha, hb, hl, h => by
   simp only [List.all_cons, Bool.and_eq_true] at ha hb
   have h1 := okc_bounds hb.1
   have h2 := okc_bounds ha.1
   rcases List.cons_lt_cons_iff.1 h with h' | ⟨rfl, h'⟩
   · have hlt : d.toNat < c.toNat := UInt8.lt_iff_toNat_lt.1 h'
     have h3 : (d.toNat - 96 + 1) * 27 ^ n ≤ (c.toNat - 96) * 27 ^ n := Nat.mul_le_mul_right _ (by omega)
     have h4 := rank_lt n a ha.2
     rw [Nat.add_mul] at h3
     simp only [rank]
     omega
   · have := rank_mono n a b ha.2 hb.2 (by simpa using hl) h'
     simp only [rank]
     omega
theorem keyB_list {s : ByteArray} (h : keyB s = true) : s.toList.all okc = true ∧ s.toList.length ≤ 6 := by
 unfold keyB at h
 simp only [Bool.and_eq_true, decide_eq_true_eq] at h
 rw [ByteArray.toList_eq]
 exact ⟨h.2, by have := h.1.2; show s.data.toList.length ≤ 6; rw [Array.length_toList]; exact this⟩
theorem rank_key {s : ByteArray} (h : keyB s = true) : rank 6 s.toList < 387420489 := rank_lt 6 _ (keyB_list h).1
theorem rank_less {a b : ByteArray} (ha : keyB a = true) (hb : keyB b = true) (h : less a b = true) : rank 6 a.toList < rank 6 b.toList := by
 rw [less_def] at h
 exact rank_mono 6 _ _ (keyB_list ha).1 (keyB_list hb).1 (keyB_list hb).2 (of_decide_eq_true h)
theorem few_above : ∀ (l : List Row) (lo : Nat), lo ≤ 387420489 → Srt l → (∀ x ∈ l, keyB x.1 = true) → (∀ x ∈ l, lo ≤ rank 6 x.1.toList) → lo + l.length ≤ 387420489
 | [], lo, h, _, _, _ => by simpa using h
 | x :: l, lo, h, hs, hk, hr => by
   obtain ⟨h1, h2⟩ := srt_cons.1 hs
   have hx := hk x (by simp)
   have hlt := rank_key hx
   have := few_above l (rank 6 x.1.toList + 1) (by omega) h2 (fun y hy => hk y (by simp [hy])) (fun y hy => rank_less hx (hk y (by simp [hy])) (h1 y hy))
   have := hr x (by simp)
   simp only [List.length_cons]
   omega
theorem right_few {l : List Row} (h : Right l) : l.length ≤ 387420489 := by
 have := few_above l 0 (by omega) h.srt h.key (fun _ _ => Nat.zero_le _)
 omega
end Go.Proofs.YtlhaeeenkgkdaaaGreatDoor

namespace Go.Proofs.YtlhaeeenkgkdaaaGreatDoor
open Go.RowKit

def belV (by_ : Int) : List Ver → Nat
 | [] => 0
 | v :: l => if v.by_ < by_ then belV by_ l + 1 else 0
theorem belV_le (by_ : Int) : ∀ l, belV by_ l ≤ l.length
 | [] => Nat.le_refl _
 | v :: l => by
   have := belV_le by_ l
   rw [belV]; split <;> simp <;> omega
theorem belV_is {by_ : Int} : ∀ {l : List Ver} {m : Nat}, m ≤ l.length → (∀ t, t < m → (l.getD t default).by_ < by_) → (m < l.length → ¬ (l.getD m default).by_ < by_) → m = belV by_ l
 | [], m, hm, _, _ => by simp at hm; simp [belV, hm]
 | v :: l, 0, _, _, h => by
   have := h (by simp)
   rw [belV, if_neg (by simpa using this)]
 | v :: l, m + 1, hm, h1, h2 => by
   have h0 := h1 0 (by omega)
   rw [belV, if_pos (by simpa using h0)]
   rw [← belV_is (l := l) (m := m) (by simpa using hm) (fun t ht => by simpa using h1 (t + 1) (by omega)) (fun h => by simpa using h2 (by simpa using h))]
theorem rise_high {by_ : Int} {v : Ver} {l : List Ver} (h : Rise (v :: l)) (hv : ¬ v.by_ < by_) : ∀ u ∈ v :: l, by_ ≤ u.by_ := fun u hu => by
 rcases List.mem_cons.1 hu with rfl | hu
 · omega
 · have := (rise_cons.1 h).1 u hu; omega
theorem befV_bel {by_ : Int} : ∀ {l : List Ver} (o : Ver), Rise l → befV by_ l o = if belV by_ l = 0 then o else l.getD (belV by_ l - 1) default
 | [], _, _ => by simp [befV, belV]
 | v :: l, o, h => by
   obtain ⟨h1, h2⟩ := rise_cons.1 h
   by_cases hv : v.by_ < by_
   · have hb : belV by_ (v :: l) = belV by_ l + 1 := by rw [belV, if_pos hv]
     rw [hb, if_neg (Nat.succ_ne_zero _), befV, if_pos hv, befV_bel v h2]
     split
     · rename_i h0; rw [h0]; simp
     · rename_i h0
       obtain ⟨m, hm⟩ : ∃ m, belV by_ l = m + 1 := ⟨belV by_ l - 1, by omega⟩
       rw [hm]; simp
   · rw [befV_high o (rise_high h hv), belV, if_neg hv, if_pos rfl]
theorem rise_lt {l : List Ver} (h : Rise l) {i j : Nat} (hij : i < j) (hj : j < l.length) : (l.getD i default).by_ < (l.getD j default).by_ := by
 have := List.pairwise_iff_getElem.1 h i j (by omega) hj hij
 simpa [List.getD, hj, show i < l.length by omega] using this
theorem setV_bel {v : Ver} : ∀ {l : List Ver}, Rise l → setV v l = if belV v.by_ l < l.length ∧ (l.getD (belV v.by_ l) default).by_ = v.by_ then l.set (belV v.by_ l) v else l
 | [], _ => by simp [setV]
 | u :: l, h => by
   obtain ⟨h1, h2⟩ := rise_cons.1 h
   show (if u.by_ = v.by_ then v else u) :: setV v l = _
   by_cases hu : u.by_ < v.by_
   · rw [if_neg (by omega), setV_bel h2]
     have hb : belV v.by_ (u :: l) = belV v.by_ l + 1 := by rw [belV, if_pos hu]
     rw [hb]
     by_cases hc : belV v.by_ l < l.length ∧ (l.getD (belV v.by_ l) default).by_ = v.by_
     · rw [if_pos hc, if_pos (by simpa using hc)]; simp
     · rw [if_neg hc, if_neg (by simpa using hc)]
   · have hb : belV v.by_ (u :: l) = 0 := by rw [belV, if_neg hu]
     rw [hb, setV_none (fun x hx => by have := h1 x hx; omega)]
     by_cases hc : u.by_ = v.by_
     · rw [if_pos hc, if_pos (by simpa using hc)]; simp
     · rw [if_neg hc, if_neg (by simpa using hc)]
theorem clearV_bel {by_ : Int} : ∀ {l : List Ver}, Rise l → clearV by_ l = if belV by_ l = 0 then l else if ((l.getD (belV by_ l - 1) default).made && !(l.getD (belV by_ l - 1) default).has_) = true then l.drop (belV by_ l) else l.drop (belV by_ l - 1)
 | [], _ => by simp [clearV, belV]
 | v :: l, h => by
   obtain ⟨h1, h2⟩ := rise_cons.1 h
   by_cases hv : v.by_ < by_
   · have hb : belV by_ (v :: l) = belV by_ l + 1 := by rw [belV, if_pos hv]
     have hd : decide (v.by_ < by_) = true := by simpa using hv
     rw [hb, if_neg (by omega), clearV, hd]
     cases l with
     | nil =>
       simp only [laterV, belV, Bool.false_and, Bool.false_or, Bool.true_and]
       simp [clearV]
     | cons u l =>
       by_cases hu : u.by_ < by_
       · have hl : laterV by_ (u :: l) = true := by simpa [laterV] using hu
         rw [hl, if_pos (by simp), clearV_bel h2]
         have hb2 : belV by_ (u :: l) = belV by_ l + 1 := by rw [belV, if_pos hu]
         rw [hb2, if_neg (by omega)]
         simp
       · have hl : laterV by_ (u :: l) = false := by simpa [laterV] using hu
         have hb2 : belV by_ (u :: l) = 0 := by rw [belV, if_neg hu]
         rw [hl, clearV_high (rise_high h2 hu), hb2]
         simp
   · rw [clearV_high (rise_high h hv), belV, if_neg hv, if_pos rfl]
def posC (k : ByteArray) : List Chn → Nat
 | [] => 0
 | c :: L => if less c.1 k = true then posC k L + 1 else 0
def isAtC (k : ByteArray) (L : List Chn) : Bool := decide (posC k L < L.length) && decide ((L.getD (posC k L) default).1 = k)
theorem posC_le (k : ByteArray) : ∀ L, posC k L ≤ L.length
 | [] => Nat.le_refl _
 | c :: L => by
   have := posC_le k L
   rw [posC]; split <;> simp <;> omega
theorem posC_is {k : ByteArray} : ∀ {L : List Chn} {m : Nat}, m ≤ L.length → (∀ t, t < m → less (L.getD t default).1 k = true) → (m < L.length → less (L.getD m default).1 k = false) → m = posC k L
 | [], m, hm, _, _ => by simp at hm; simp [posC, hm]
 | c :: L, 0, _, _, h => by
   have := h (by simp)
   rw [posC, if_neg (by simp at this; simp [this])]
 | c :: L, m + 1, hm, h1, h2 => by
   have h0 := h1 0 (by omega)
   rw [posC, if_pos (by simpa using h0)]
   rw [← posC_is (L := L) (m := m) (by simpa using hm) (fun t ht => by simpa using h1 (t + 1) (by omega)) (fun h => by simpa using h2 (by simpa using h))]
theorem isAtC_cons {k : ByteArray} {c : Chn} {L : List Chn} (h : less c.1 k = true) : isAtC k (c :: L) = isAtC k L := by
 unfold isAtC
 rw [posC, if_pos h]
 simp
theorem isAtC_here {k : ByteArray} {c : Chn} {L : List Chn} (h : ¬ less c.1 k = true) : isAtC k (c :: L) = decide (c.1 = k) := by
 unfold isAtC
 rw [posC, if_neg h]
 simp
theorem posC_cons {k : ByteArray} {c : Chn} {L : List Chn} (h : less c.1 k = true) : posC k (c :: L) = posC k L + 1 := by rw [posC, if_pos h]
theorem posC_here {k : ByteArray} {c : Chn} {L : List Chn} (h : ¬ less c.1 k = true) : posC k (c :: L) = 0 := by rw [posC, if_neg h]
theorem front_of {k : ByteArray} {c : Chn} {L : List Chn} (hs : SrtC (c :: L)) (h : ¬ less c.1 k = true) (hk : c.1 ≠ k) : ∀ y ∈ c :: L, less k y.1 = true := fun y hy => by
 have h0 : less k c.1 = true := by
   rcases less_cases c.1 k with g | g | g
   · exact absurd g h
   · exact absurd g hk
   · exact g
 rcases List.mem_cons.1 hy with rfl | hy
 · exact h0
 · exact less_trans h0 ((srtC_cons.1 hs).1 y hy)
theorem vsOf_at {k : ByteArray} : ∀ {L : List Chn}, SrtC L → vsOf k L = if isAtC k L = true then (L.getD (posC k L) default).2 else []
 | [], _ => by simp [vsOf, isAtC]
 | c :: L, h => by
   obtain ⟨h1, h2⟩ := srtC_cons.1 h
   by_cases hl : less c.1 k = true
   · rw [vsOf, if_neg (less_ne hl), isAtC_cons hl, posC_cons hl, vsOf_at h2]
     simp
   · rw [isAtC_here hl, posC_here hl]
     by_cases e : c.1 = k
     · rw [vsOf, if_pos e]; simp [e]
     · rw [vsOf_front (front_of h hl e)]; simp [e]
def withC (k : ByteArray) (f : List Ver → List Ver) (L : List Chn) : List Chn :=
 if isAtC k L = true then L.set (posC k L) (k, f (L.getD (posC k L) default).2) else if f [] = [] then L else L.take (posC k L) ++ (k, f []) :: L.drop (posC k L)
theorem addC_with {k : ByteArray} {by_ : Int} : ∀ {L : List Chn}, SrtC L → addC k by_ L = withC k (· ++ [newV by_]) L
 | [], _ => by simp [addC, withC, isAtC, posC]
 | c :: L, h => by
   obtain ⟨h1, h2⟩ := srtC_cons.1 h
   by_cases hl : less c.1 k = true
   · rw [addC, if_neg (by rw [less_asymm hl]; simp), if_neg (less_ne hl), addC_with h2]
     unfold withC
     rw [isAtC_cons hl, posC_cons hl]
     by_cases ha : isAtC k L = true
     · rw [if_pos ha, if_pos ha]; simp
     · rw [if_neg ha, if_neg ha]; simp
   · unfold withC
     rw [isAtC_here hl, posC_here hl]
     by_cases e : c.1 = k
     · rw [addC, if_neg (by rw [e, less_irrefl]; simp), if_pos e]; simp [e]
     · rw [addC, if_pos (front_of h hl e c (by simp))]; simp [e]
theorem setC_other {k : ByteArray} {v : Ver} : ∀ {L : List Chn}, (∀ c ∈ L, c.1 ≠ k) → setC k v L = L
 | [], _ => rfl
 | c :: L, h => by
   show (if c.1 = k then (c.1, setV v c.2) else c) :: setC k v L = _
   rw [if_neg (h c (by simp)), setC_other (fun x hx => h x (by simp [hx]))]
theorem setC_with {k : ByteArray} {v : Ver} : ∀ {L : List Chn}, SrtC L → setC k v L = withC k (setV v) L
 | [], _ => by simp [setC, withC, isAtC, posC, setV]
 | c :: L, h => by
   obtain ⟨h1, h2⟩ := srtC_cons.1 h
   have h0 : setV v [] = [] := rfl
   show (if c.1 = k then (c.1, setV v c.2) else c) :: setC k v L = _
   by_cases hl : less c.1 k = true
   · rw [if_neg (less_ne hl), setC_with h2]
     unfold withC
     rw [isAtC_cons hl, posC_cons hl]
     by_cases ha : isAtC k L = true
     · rw [if_pos ha, if_pos ha]; simp
     · rw [if_neg ha, if_neg ha, if_pos h0, if_pos h0]
   · unfold withC
     rw [isAtC_here hl, posC_here hl]
     by_cases e : c.1 = k
     · rw [if_pos e, setC_other (fun x hx e2 => less_ne (h1 x hx) (by rw [e, e2]))]; simp [e]
     · rw [if_neg e, setC_other (fun x hx e2 => less_ne (front_of h hl e x (by simp [hx])) e2.symm)]; simp [e, h0]
theorem chains_few_above : ∀ (L : List Chn) (lo : Nat), lo ≤ 387420489 → SrtC L → (∀ x ∈ L, keyB x.1 = true) → (∀ x ∈ L, lo ≤ rank 6 x.1.toList) → lo + L.length ≤ 387420489
 | [], lo, h, _, _, _ => by simpa using h
 | x :: l, lo, h, hs, hk, hr => by
   obtain ⟨h1, h2⟩ := srtC_cons.1 hs
   have hx := hk x (by simp)
   have hlt := rank_key hx
   have := chains_few_above l (rank 6 x.1.toList + 1) (by omega) h2 (fun y hy => hk y (by simp [hy])) (fun y hy => rank_less hx (hk y (by simp [hy])) (h1 y hy))
   have := hr x (by simp)
   simp only [List.length_cons]
   omega
theorem chains_few {L : List Chn} (hs : SrtC L) (hk : ∀ c ∈ L, keyB c.1 = true) : L.length ≤ 387420489 := by
 have := chains_few_above L 0 (by omega) hs hk (fun _ _ => Nat.zero_le _)
 omega
theorem srtC_lt {L : List Chn} (h : SrtC L) {i j : Nat} (hij : i < j) (hj : j < L.length) : less (L.getD i default).1 (L.getD j default).1 = true := by
 have := List.pairwise_iff_getElem.1 h i j (by omega) hj hij
 simpa [List.getD, hj, show i < L.length by omega] using this

def rowsGo (L0 : List Chn) (at_ : Int) : List Chn → Option (List Row)
 | [] => some []
 | c :: L => if (before L0 c.1 at_).made = true then (rowsGo L0 at_ L).map (fun r => if (before L0 c.1 at_).has_ = true then (c.1, (before L0 c.1 at_).n) :: r else r) else none
def rowsC (L : List Chn) (at_ : Int) : Option (List Row) := rowsGo L at_ L
theorem rowsGo_snoc (L0 : List Chn) (at_ : Int) (c : Chn) : ∀ {L : List Chn} {r : List Row}, rowsGo L0 at_ L = some r → rowsGo L0 at_ (L ++ [c]) = if (before L0 c.1 at_).made = true then some (if (before L0 c.1 at_).has_ = true then r ++ [(c.1, (before L0 c.1 at_).n)] else r) else none
 | [], r, h => by
   simp only [rowsGo, Option.some.injEq] at h
   subst h
   simp [rowsGo]
 | x :: L, r, h => by
   rw [rowsGo] at h
   rw [List.cons_append, rowsGo]
   split at h
   · rename_i hx
     rw [if_pos hx]
     obtain ⟨r', hr', rfl⟩ := Option.map_eq_some_iff.1 h
     rw [rowsGo_snoc L0 at_ c hr']
     by_cases hm : (before L0 c.1 at_).made = true
     · rw [if_pos hm, if_pos hm]
       simp only [Option.map_some]
       congr 1
       split <;> split <;> simp
     · rw [if_neg hm, if_neg hm]; rfl
   · cases h
theorem rowsGo_stop (L0 : List Chn) (at_ : Int) : ∀ {L : List Chn} {c : Chn}, c ∈ L → ¬ (before L0 c.1 at_).made = true → rowsGo L0 at_ L = none
 | x :: L, c, hc, h => by
   rw [rowsGo]
   rcases List.mem_cons.1 hc with rfl | hc
   · rw [if_neg h]
   · rw [rowsGo_stop L0 at_ hc h]
     split <;> rfl
theorem vsOf_own {L : List Chn} (h : SrtC L) : ∀ {c : Chn}, c ∈ L → vsOf c.1 L = c.2 := by
 induction L with
 | nil => intro c hc; cases hc
 | cons x L ih =>
   obtain ⟨h1, h2⟩ := srtC_cons.1 h
   intro c hc
   rw [vsOf]
   rcases List.mem_cons.1 hc with rfl | hc
   · rw [if_pos rfl]
   · rw [if_neg (less_ne (h1 c hc)), ih h2 hc]
theorem before_own {L : List Chn} (h : SrtC L) {c : Chn} (hc : c ∈ L) (at_ : Int) : before L c.1 at_ = befV at_ c.2 ver0 := by
 unfold before; rw [vsOf_own h hc]
theorem clearC_snoc (by_ : Int) (c : Chn) : ∀ L : List Chn, clearC by_ (L ++ [c]) = clearC by_ L ++ (if clearV by_ c.2 = [] then [] else [(c.1, clearV by_ c.2)])
 | [] => by
   simp only [List.nil_append, clearC]
 | x :: L => by
   rw [List.cons_append, clearC, clearC, clearC_snoc by_ c L]
   split <;> simp
def ofRows (r : List Row) : List Chn := r.map (fun x => (x.1, [(-1, true, true, x.2)]))
theorem ofRows_snoc (r : List Row) (x : Row) : ofRows (r ++ [x]) = ofRows r ++ [(x.1, [(-1, true, true, x.2)])] := by simp [ofRows]
end Go.Proofs.YtlhaeeenkgkdaaaGreatDoor
