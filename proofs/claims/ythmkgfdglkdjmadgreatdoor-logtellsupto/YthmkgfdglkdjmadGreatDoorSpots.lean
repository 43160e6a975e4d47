/-
  Plain mathematics: there are not so many keys, so right rows are not too many.
  Plain mathematics of chains as the program goes: the place of a key, how many versions are ahead, and what of it comes to what the document says.
  Plain mathematics of chains: what a version more, and one that is made, leave as it was.
  Plain mathematics of engines: deeds that are planned, and done in whatever order, leave what they leave one by one.
  What a row that grows does not touch: slices that lie elsewhere, by where they are or by what they are of; and values of one kind laid one behind the other.
-/
import Derived.Test.YthmkgfdglkdjmadGreatDoorDeedMath
import Derived.Test.YthmkgfdglkdjmadGreatDoorChainMath
import Derived.Test.YthmkgfdglkdjmadGreatDoorPlainMath
import Derived.Test.YthmkgfdglkdjmadGreatDoorDeedKeys
namespace Go.Proofs.YthmkgfdglkdjmadGreatDoor
open Go.RowKit

/-- A key's number, in n digits of 27. -/
def rank : Nat → List UInt8 → Nat
  | 0, _ => 0
  | _ + 1, [] => 0
  | n + 1, c :: l => (c.toNat - 96) * 27 ^ n + rank n l

theorem okc_bounds {c : UInt8} (h : okc c = true) : 97 ≤ c.toNat ∧ c.toNat ≤ 122 := by
  simp [okc] at h; omega
theorem rank_lt : ∀ (n : Nat) (l : List UInt8), l.all okc = true → rank n l < 27 ^ n
  | 0, _, _ => by simp [rank]
  | n + 1, [], _ => by simp only [rank]; exact Nat.pow_pos (by decide)
  | n + 1, c :: l, h => by
    simp only [List.all_cons, Bool.and_eq_true] at h
    have h1 := okc_bounds h.1
    have h2 := rank_lt n l h.2
    have h3 : (c.toNat - 96) * 27 ^ n ≤ 26 * 27 ^ n := Nat.mul_le_mul_right _ (by omega)
    simp only [rank, Nat.pow_succ]
    omega
theorem rank_mono : ∀ (n : Nat) (a b : List UInt8), a.all okc = true → b.all okc = true → b.length ≤ n → a < b → rank n a < rank n b
  | n, a, [], _, _, _, h => absurd h (List.not_lt_nil a)
  | 0, _, c :: b, _, _, hl, _ => by simp at hl
  | n + 1, [], c :: b, _, hb, _, _ => by
    simp only [List.all_cons, Bool.and_eq_true] at hb
    have h1 := okc_bounds hb.1
    have h3 : 1 * 27 ^ n ≤ (c.toNat - 96) * 27 ^ n := Nat.mul_le_mul_right _ (by omega)
    have h4 : 0 < 27 ^ n := Nat.pow_pos (by decide)
    simp only [rank]
    omega
  | n + 1, d :: a, c :: b, ha, hb, hl, h => by
    simp only [List.all_cons, Bool.and_eq_true] at ha hb
    have h1 := okc_bounds hb.1
    have h2 := okc_bounds ha.1
    rcases List.cons_lt_cons_iff.1 h with h' | ⟨rfl, h'⟩
    · have hlt : d.toNat < c.toNat := UInt8.lt_iff_toNat_lt.1 h'
      have h3 : (d.toNat - 96 + 1) * 27 ^ n ≤ (c.toNat - 96) * 27 ^ n := Nat.mul_le_mul_right _ (by omega)
      have h4 := rank_lt n a ha.2
      rw [Nat.add_mul] at h3
      simp only [rank]
      omega
    · have := rank_mono n a b ha.2 hb.2 (by simpa using hl) h'
      simp only [rank]
      omega
theorem keyB_list {s : ByteArray} (h : keyB s = true) : s.toList.all okc = true ∧ s.toList.length ≤ 6 := by
  unfold keyB at h
  simp only [Bool.and_eq_true, decide_eq_true_eq] at h
  rw [ByteArray.toList_eq]
  exact ⟨h.2, by have := h.1.2; show s.data.toList.length ≤ 6; rw [Array.length_toList]; exact this⟩
theorem rank_key {s : ByteArray} (h : keyB s = true) : rank 6 s.toList < 387420489 := rank_lt 6 _ (keyB_list h).1
theorem rank_less {a b : ByteArray} (ha : keyB a = true) (hb : keyB b = true) (h : less a b = true) : rank 6 a.toList < rank 6 b.toList := by
  rw [less_def] at h
  exact rank_mono 6 _ _ (keyB_list ha).1 (keyB_list hb).1 (keyB_list hb).2 (of_decide_eq_true h)
end Go.Proofs.YthmkgfdglkdjmadGreatDoor

namespace Go.Proofs.YthmkgfdglkdjmadGreatDoor
open Go.RowKit

/-! ### How many are ahead -/
/-! ### The place of a key -/
theorem chains_few_above : ∀ (L : List Chn) (lo : Nat), lo ≤ 387420489 → SrtC L → (∀ x ∈ L, keyB x.1 = true) → (∀ x ∈ L, lo ≤ rank 6 x.1.toList) → lo + L.length ≤ 387420489
  | [], lo, h, _, _, _ => by simpa using h
  | x :: l, lo, h, hs, hk, hr => by
    obtain ⟨h1, h2⟩ := srtC_cons.1 hs
    have hx := hk x (by simp)
    have hlt := rank_key hx
    have := chains_few_above l (rank 6 x.1.toList + 1) (by omega) h2 (fun y hy => hk y (by simp [hy])) (fun y hy => rank_less hx (hk y (by simp [hy])) (h1 y hy))
    have := hr x (by simp)
    simp only [List.length_cons]
    omega
/-- Right chains are not too many. -/
theorem chains_few {L : List Chn} (hs : SrtC L) (hk : ∀ c ∈ L, keyB c.1 = true) : L.length ≤ 387420489 := by
  have := chains_few_above L 0 (by omega) hs hk (fun _ _ => Nat.zero_le _)
  omega
/-! ### What keys have when -/
def rowsGo (L0 : List Chn) (at_ : Int) : List Chn → Option (List Row)
  | [] => some []
  | c :: L => if (before L0 c.1 at_).made = true then (rowsGo L0 at_ L).map (fun r => if (before L0 c.1 at_).has_ = true then (c.1, (before L0 c.1 at_).n) :: r else r) else none
def rowsC (L : List Chn) (at_ : Int) : Option (List Row) := rowsGo L at_ L
/-! ### Chains of rows -/
def ofRows (r : List Row) : List Chn := r.map (fun x => (x.1, [(-1, true, true, x.2)]))
end Go.Proofs.YthmkgfdglkdjmadGreatDoor

namespace Go.Proofs.YthmkgfdglkdjmadGreatDoor
open Go.RowKit

theorem addC_srt {k : ByteArray} {by_ : Int} : ∀ {L : List Chn}, SrtC L → SrtC (addC k by_ L) ∧ ∀ x ∈ addC k by_ L, x.1 = k ∨ ∃ c ∈ L, x.1 = c.1
  | [], _ => ⟨List.pairwise_singleton _ _, fun x hx => by simp [addC] at hx; exact .inl (by rw [hx])⟩
  | c :: L, h => by
    obtain ⟨h1, h2⟩ := srtC_cons.1 h
    obtain ⟨i1, i2⟩ := addC_srt (k := k) (by_ := by_) h2
    rw [addC]
    by_cases e1 : less k c.1 = true
    · rw [if_pos e1]
      refine ⟨srtC_cons.2 ⟨fun y hy => ?_, h⟩, fun x hx => ?_⟩
      · rcases List.mem_cons.1 hy with rfl | hy
        · exact e1
        · exact less_trans e1 (h1 y hy)
      · rcases List.mem_cons.1 hx with rfl | hx
        · exact .inl rfl
        · exact .inr ⟨x, hx, rfl⟩
    · rw [if_neg e1]
      by_cases e2 : c.1 = k
      · rw [if_pos e2]
        refine ⟨srtC_cons.2 ⟨fun y hy => by rw [← e2]; exact h1 y hy, h2⟩, fun x hx => ?_⟩
        rcases List.mem_cons.1 hx with rfl | hx
        · exact .inl rfl
        · exact .inr ⟨x, by simp [hx], rfl⟩
      · rw [if_neg e2]
        refine ⟨srtC_cons.2 ⟨fun y hy => ?_, i1⟩, fun x hx => ?_⟩
        · rcases i2 y hy with e | ⟨c', hc', e⟩
          · rw [e]
            rcases less_cases c.1 k with g | g | g
            · exact g
            · exact absurd g e2
            · exact absurd g e1
          · rw [e]; exact h1 c' hc'
        · rcases List.mem_cons.1 hx with rfl | hx
          · exact .inr ⟨x, by simp, rfl⟩
          · rcases i2 x hx with e | ⟨c', hc', e⟩
            · exact .inl e
            · exact .inr ⟨c', by simp [hc'], e⟩
theorem addC_some {k : ByteArray} {by_ : Int} : ∀ {L : List Chn}, (∀ c ∈ L, c.2 ≠ []) → ∀ c ∈ addC k by_ L, c.2 ≠ []
  | [], _, c, hc => by simp [addC] at hc; rw [hc]; simp
  | x :: L, h, c, hc => by
    rw [addC] at hc
    split at hc
    · rcases List.mem_cons.1 hc with rfl | hc
      · simp
      · exact h c hc
    · split at hc
      · rcases List.mem_cons.1 hc with rfl | hc
        · simp
        · exact h c (by simp [hc])
      · rcases List.mem_cons.1 hc with rfl | hc
        · exact h c (by simp)
        · exact addC_some (fun y hy => h y (by simp [hy])) c hc
theorem setC_srt {k : ByteArray} {v : Ver} {L : List Chn} (h : SrtC L) : SrtC (setC k v L) := by
  unfold SrtC setC
  rw [List.pairwise_map]
  refine h.imp fun {a b} hab => ?_
  have e : ∀ c : Chn, (if c.1 = k then (c.1, setV v c.2) else c).1 = c.1 := fun c => by split <;> rfl
  rw [e a, e b]; exact hab
theorem setC_some {k : ByteArray} {v : Ver} {L : List Chn} (h : ∀ c ∈ L, c.2 ≠ []) : ∀ c ∈ setC k v L, c.2 ≠ [] := fun c hc => by
  obtain ⟨x, hx, rfl⟩ := List.mem_map.1 hc
  split
  · simpa [setV] using h x hx
  · exact h x hx
end Go.Proofs.YthmkgfdglkdjmadGreatDoor

namespace Go.Proofs.YthmkgfdglkdjmadGreatDoor
open Go.RowKit

structure Eng where
  chains : List Chn
  deeds : List Deed3
  state : List Int
  ends : List End3
  base : Int
def noE : End3 := (false, zeroR)
def newE (r : List Row) : Eng := ⟨ofRows r, [], [], [], 0⟩
def addW (by_ : Int) (W : List ByteArray) (L : List Chn) : List Chn := W.foldl (fun L k => addC k by_ L) L
def addD (e : Eng) (d : Deed3) : Eng := ⟨addW (e.base + e.deeds.length) d.2.1 e.chains, e.deeds ++ [d], e.state ++ [0], e.ends ++ [noE], e.base⟩
def addAll (e : Eng) (l : List Deed3) : Eng := l.foldl addD e
/-- The keys of a deed, each once. -/
def addKey (out : List ByteArray) (k : ByteArray) : List ByteArray := if has out k = true then out else out ++ [k]
def keysD (d : Deed3) : List ByteArray := (d.1 ++ d.2.1).foldl addKey []
def needE (e : Eng) (p k : Nat) : Bool := (keysD (e.deeds.getD p default)).any (fun x => !(before e.chains x (e.base + p)).made && decide ((before e.chains x (e.base + p)).by_ = e.base + k))
def needsE (e : Eng) (p : Nat) : List Nat := (List.range p).filter (needE e p)
def seesK (L : List Chn) (at_ : Int) (r : List Row) (k : ByteArray) : List Row := if (before L k at_).has_ = true then ins k (before L k at_).n r else r
def seesE (e : Eng) (p : Nat) : List Row := (keysD (e.deeds.getD p default)).foldl (seesK e.chains (e.base + p)) []
def setW (by_ : Int) (r : List Row) (W : List ByteArray) (L : List Chn) : List Chn := W.foldl (fun L k => setC k (by_, true, isAt k r, num k r) L) L
def goE (e : Eng) (p : Nat) : Eng :=
  ⟨setW (e.base + p) (doD (seesE e p) (e.deeds.getD p default)) (e.deeds.getD p default).2.1 e.chains, e.deeds, e.state.set p 1, e.ends.set p (endD (seesE e p) (e.deeds.getD p default)), e.base⟩

/-! ### Keys of a deed -/
theorem addKey_mem {out : List ByteArray} {k x : ByteArray} : x ∈ addKey out k ↔ x ∈ out ∨ x = k := by
  unfold addKey
  split
  · rename_i h
    constructor
    · exact .inl
    · rintro (h1 | rfl)
      · exact h1
      · exact has_iff.1 h
  · simp
theorem keys_mem : ∀ (l out : List ByteArray) (x : ByteArray), x ∈ l.foldl addKey out ↔ x ∈ out ∨ x ∈ l
  | [], out, x => by simp
  | k :: l, out, x => by
    rw [List.foldl_cons, keys_mem l, addKey_mem, List.mem_cons]
    constructor
    · rintro ((h | h) | h)
      · exact .inl h
      · exact .inr (.inl h)
      · exact .inr (.inr h)
    · rintro (h | h | h)
      · exact .inl (.inl h)
      · exact .inl (.inr h)
      · exact .inr h
theorem keysD_mem {d : Deed3} {x : ByteArray} : x ∈ keysD d ↔ x ∈ d.1 ∨ x ∈ d.2.1 := by
  unfold keysD
  rw [keys_mem]
  simp
/-! ### Versions of several keys at once -/
theorem addW_srt {by_ : Int} : ∀ (W : List ByteArray) {L : List Chn}, SrtC L → SrtC (addW by_ W L)
  | [], _, h => h
  | _ :: W, _, h => addW_srt W (addC_srt h).1
theorem addW_some {by_ : Int} : ∀ (W : List ByteArray) {L : List Chn}, (∀ c ∈ L, c.2 ≠ []) → ∀ c ∈ addW by_ W L, c.2 ≠ []
  | [], _, h => h
  | _ :: W, _, h => addW_some W (addC_some h)
theorem vsOf_addW {by_ : Int} {k : ByteArray} : ∀ (W : List ByteArray) {L : List Chn}, W.Nodup → SrtC L → vsOf k (addW by_ W L) = if has W k = true then vsOf k L ++ [newV by_] else vsOf k L
  | [], _, _, _ => by simp [addW, has]
  | x :: W, L, hn, hs => by
    rw [List.nodup_cons] at hn
    show vsOf k (addW by_ W (addC x by_ L)) = _
    rw [vsOf_addW W hn.2 (addC_srt hs).1]
    by_cases e : k = x
    · subst e
      rw [if_neg (fun h => hn.1 (has_iff.1 h)), if_pos (has_iff.2 (by simp)), vsOf_add k by_ L hs]
    · rw [vsOf_add_other by_ e L, has_cons, decide_eq_false (Ne.symm e), Bool.false_or]
theorem setW_srt {by_ : Int} {r : List Row} : ∀ (W : List ByteArray) {L : List Chn}, SrtC L → SrtC (setW by_ r W L)
  | [], _, h => h
  | _ :: W, _, h => setW_srt W (setC_srt h)
theorem setW_some {by_ : Int} {r : List Row} : ∀ (W : List ByteArray) {L : List Chn}, (∀ c ∈ L, c.2 ≠ []) → ∀ c ∈ setW by_ r W L, c.2 ≠ []
  | [], _, h => h
  | _ :: W, _, h => setW_some W (setC_some h)
theorem vsOf_setW {by_ : Int} {r : List Row} {k : ByteArray} : ∀ (W : List ByteArray) {L : List Chn}, W.Nodup → vsOf k (setW by_ r W L) = if has W k = true then setV (by_, true, isAt k r, num k r) (vsOf k L) else vsOf k L
  | [], _, _ => by simp [setW, has]
  | x :: W, L, hn => by
    rw [List.nodup_cons] at hn
    show vsOf k (setW by_ r W (setC x (by_, true, isAt x r, num x r) L)) = _
    rw [vsOf_setW W hn.2]
    by_cases e : k = x
    · subst e
      rw [if_neg (fun h => hn.1 (has_iff.1 h)), if_pos (has_iff.2 (by simp)), vsOf_set]
    · rw [vsOf_set_other _ e L, has_cons, decide_eq_false (Ne.symm e), Bool.false_or]
end Go.Proofs.YthmkgfdglkdjmadGreatDoor

namespace Go.Proofs.YthmkgfdglkdjmadGreatDoor
open Go.RowKit

/-- Where a slice lies: ahead of B, or in memory of its own elements' type. -/
def Spot (w : World) (B : Nat) (t : TypeId) (base : Option Addr) (n : Nat) : Prop := n = 0 ∨ (∀ a, base = some a → a.block < B) ∨ Kind w t base
theorem Spot.below {w w' : World} {B : Nat} {t : TypeId} {base : Option Addr} {n : Nat} (h : Spot w B t base n) (hb : Below w.heap.size w w') : Spot w' B t base n := h.imp id (fun h => h.imp id (fun k => k.below hb))
theorem own_apart {w : World} {B e t sz n b : Nat} {v : Value} {xs : List Value} (ho : w.ownsRow B e sz v n xs) (hb : b < B ∨ ∃ cur z, w.heap[b]? = some (.cells cur t z)) (hne : t ≠ e) : some b ≠ v.ownBlock := fun he => by
  rcases ho.2 with ⟨rfl, _⟩ | ⟨g, cap, cur, rfl, hB, hg, _⟩
  · simp [Value.ownBlock] at he
  · simp [Value.ownBlock] at he
    subst he
    rcases hb with hb | ⟨cur', z', hc⟩
    · omega
    · rw [hg] at hc
      simp at hc
      exact hne hc.2.1.symm
/-- Rows that are no part of a row that grows. -/
theorem Holds.grown {w w' : World} {B e sz n : Nat} {v : Value} {xs : List Value} {nb : Option Addr} {nn nc : Nat} {L : List Row} (h : Holds w nb nn nc L) (hs : Spot w B 78 nb nn) (ho : w.ownsRow B e sz v n xs) (hne : 78 ≠ e) (hg : w.grownBy w' v.ownBlock) : Holds w' nb nn nc L ∧ Spot w' B 78 nb nn := by
  by_cases h0 : nn = 0
  · exact ⟨Holds.empty w' h.len h0 h.hdr, .inl h0⟩
  rcases hs with hs | hs
  · exact absurd hs h0
  rcases h.seg with h1 | ⟨bl, o, rfl, hc⟩
  · have := h.len; rw [h1] at this; exact absurd this h0
  have hL : 0 < L.length := by have := h.len; omega
  have hlt := hc.lt hL
  have hap : some bl ≠ v.ownBlock := own_apart (t := 78) ho (hs.imp (fun h => h _ rfl) (fun k => k _ rfl)) hne
  have hbl := hg.block bl hlt hap
  refine ⟨⟨h.len, .inr ⟨bl, o, rfl, fun i hi => ?_⟩, h.hdr⟩, .inr (hs.imp id (fun k a e => ?_))⟩
  · rw [World.cell?_of_block (w := w) (a := ⟨bl, o + i * 2, none⟩) hbl, World.cell?_of_block (w := w) (a := ⟨bl, o + i * 2 + 1, none⟩) hbl]
    exact hc i hi
  · obtain ⟨cur, z, hk⟩ := k a e
    have : a.block = bl := by cases e; rfl
    exact ⟨cur, z, by rw [this, hbl, ← this]; exact hk⟩
/-- Slices, of whatever elements, that are no part of a row that grows. -/
theorem Lies.grown {w w' : World} {B e sz n t s : Nat} {v : Value} {xs vs : List Value} {nb : Option Addr} {nn nc : Nat} (hs0 : 0 < s) (h : Lies w s nb nn nc vs) (hs : Spot w B t nb nn) (ho : w.ownsRow B e sz v n xs) (hne : t ≠ e) (hg : w.grownBy w' v.ownBlock) : Lies w' s nb nn nc vs ∧ Spot w' B t nb nn := by
  by_cases h0 : nn = 0
  · exact ⟨⟨h.len, h.hdr, .inl h0⟩, .inl h0⟩
  rcases hs with hs | hs
  · exact absurd hs h0
  rcases h.run with h1 | ⟨bl, o, rfl, hc⟩
  · exact absurd h1 h0
  have hlt := hc.lt (by rw [h.len]; exact Nat.mul_pos (by omega) hs0)
  have hap : some bl ≠ v.ownBlock := own_apart (t := t) ho (hs.imp (fun h => h _ rfl) (fun k => k _ rfl)) hne
  have hbl := hg.block bl hlt hap
  refine ⟨⟨h.len, h.hdr, .inr ⟨bl, o, rfl, fun j u hu => ?_⟩⟩, .inr (hs.imp id (fun k a e => ?_))⟩
  · rw [World.cell?_of_block (w := w) (a := ⟨bl, o + j, Option.none⟩) hbl]
    exact hc j u hu
  · obtain ⟨cur, z, hk⟩ := k a e
    have : a.block = bl := by cases e; rfl
    exact ⟨cur, z, by rw [this, hbl, ← this]; exact hk⟩
/-- What lies there lies in old memory. -/
theorem Lies.spot {w : World} {s t : Nat} {nb : Option Addr} {nn nc : Nat} {vs : List Value} (hs0 : 0 < s) (h : Lies w s nb nn nc vs) : Spot w w.heap.size t nb nn := by
  rcases h.run with h1 | ⟨bl, o, rfl, hc⟩
  · exact .inl h1
  · by_cases h0 : nn = 0
    · exact .inl h0
    · exact .inr (.inl fun a e => by cases e; exact hc.lt (by rw [h.len]; exact Nat.mul_pos (by omega) hs0))
theorem Lies.kind {w : World} {B e sz n : Nat} {base : Option Addr} {c : Nat} {vs : List Value} (h : w.ownsRow B e sz (.slice base n c) n vs) (B' : Nat) : Spot w B' e base n := .inr (.inr (Kind.owned h))

/-! ### Values of one kind, one behind the other -/
def flat {α : Type} (f : α → List Value) (l : List α) : List Value := l.flatMap f
theorem flat_cons {α : Type} (f : α → List Value) (x : α) (l : List α) : flat f (x :: l) = f x ++ flat f l := by simp [flat]
theorem flat_snoc {α : Type} (f : α → List Value) (l : List α) (x : α) : flat f (l ++ [x]) = flat f l ++ f x := by simp [flat]
theorem flat_length {α : Type} {f : α → List Value} {k : Nat} (hk : ∀ x, (f x).length = k) : ∀ l : List α, (flat f l).length = l.length * k
  | [] => by simp [flat]
  | x :: l => by rw [flat_cons, List.length_append, hk, flat_length hk l, List.length_cons, Nat.add_mul, Nat.one_mul, Nat.add_comm]
theorem flat_at {α : Type} [Inhabited α] {f : α → List Value} {k : Nat} (hk : ∀ x, (f x).length = k) : ∀ (l : List α) (i : Nat), i < l.length → ∀ j u, (f (l.getD i default))[j]? = some u → (flat f l)[i * k + j]? = some u
  | [], i, h => absurd h (Nat.not_lt_zero _)
  | x :: l, 0, _ => fun j u hu => by
    rw [flat_cons, Nat.zero_mul, Nat.zero_add, List.getElem?_append_left]
    · simpa using hu
    · simpa using (List.getElem?_eq_some_iff.1 hu).1
  | x :: l, i + 1, h => fun j u hu => by
    have := flat_at hk l i (by simpa using h) j u (by simpa using hu)
    have e : (i + 1) * k + j = k + (i * k + j) := by rw [Nat.add_mul, Nat.one_mul]; omega
    rw [flat_cons, e, List.getElem?_append_right (by rw [hk]; omega), hk, Nat.add_sub_cancel_left]
    exact this
theorem Lies.count {α : Type} {f : α → List Value} {k : Nat} (hk : ∀ x, (f x).length = k) (h0 : 0 < k) {w : World} {base : Option Addr} {n c : Nat} {l : List α} (h : Lies w k base n c (flat f l)) : n = l.length := by
  have := h.len
  rw [flat_length hk] at this
  exact (Nat.eq_of_mul_eq_mul_right h0 this).symm
theorem Run.at_ {α : Type} [Inhabited α] {f : α → List Value} {k : Nat} (hk : ∀ x, (f x).length = k) {w : World} {b o : Nat} {l : List α} (h : Run w b o (flat f l)) {i : Nat} (hi : i < l.length) {j : Nat} {u : Value} (hu : (f (l.getD i default))[j]? = some u) : w.cell? ⟨b, o + i * k + j, none⟩ = some u := by
  rw [Nat.add_assoc]; exact h _ u (flat_at hk l i hi j u hu)
end Go.Proofs.YthmkgfdglkdjmadGreatDoor
