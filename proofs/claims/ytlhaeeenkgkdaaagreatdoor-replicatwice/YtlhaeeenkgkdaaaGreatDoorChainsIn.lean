/-
  Plain mathematics of chains: what a version more, and one that is made, leave as it was.
  Plain mathematics of engines: deeds that are planned, and done in whatever order, leave what they leave one by one.
  What a row that grows does not touch: slices that lie elsewhere, by where they are or by what they are of; and values of one kind laid one behind the other.
  What it means that a slice in memory holds versions, and chains of them.
-/
import Derived.Test.YtlhaeeenkgkdaaaGreatDoorChainFind
import Derived.Test.YtlhaeeenkgkdaaaGreatDoorOpenDeeds
import Derived.Test.YtlhaeeenkgkdaaaGreatDoorDeedKeys
import Derived.Test.YtlhaeeenkgkdaaaGreatDoorOpen
namespace Go.Proofs.YtlhaeeenkgkdaaaGreatDoor
open Go.RowKit

theorem addC_srt {k : ByteArray} {by_ : Int} : ∀ {L : List Chn}, SrtC L → SrtC (addC k by_ L) ∧ ∀ x ∈ addC k by_ L, x.1 = k ∨ ∃ c ∈ L, x.1 = c.1
 | [], _ => ⟨List.pairwise_singleton _ _, fun x hx => by simp [addC] at hx; exact .inl (by rw [hx])⟩
 | c :: L, h => by
   obtain ⟨h1, h2⟩ := srtC_cons.1 h
   obtain ⟨i1, i2⟩ := addC_srt (k := k) (by_ := by_) h2
   rw [addC]
   by_cases e1 : less k c.1 = true
   · rw [if_pos e1]
     refine ⟨srtC_cons.2 ⟨fun y hy => ?_, h⟩, fun x hx => ?_⟩
     · rcases List.mem_cons.1 hy with rfl | hy
       · exact e1
       · exact less_trans e1 (h1 y hy)
     · rcases List.mem_cons.1 hx with rfl | hx
       · exact .inl rfl
       · exact .inr ⟨x, hx, rfl⟩
   · rw [if_neg e1]
     by_cases e2 : c.1 = k
     · rw [if_pos e2]
       refine ⟨srtC_cons.2 ⟨fun y hy => by rw [← e2]; exact h1 y hy, h2⟩, fun x hx => ?_⟩
       rcases List.mem_cons.1 hx with rfl | hx
       · exact .inl rfl
       · exact .inr ⟨x, by simp [hx], rfl⟩
     · rw [if_neg e2]
       refine ⟨srtC_cons.2 ⟨fun y hy => ?_, i1⟩, fun x hx => ?_⟩
       · rcases i2 y hy with e | ⟨c', hc', e⟩
         · rw [e]
           rcases less_cases c.1 k with g | g | g
           · exact g
           · exact absurd g e2
           · exact absurd g e1
         · rw [e]; exact h1 c' hc'
       · rcases List.mem_cons.1 hx with rfl | hx
         · exact .inr ⟨x, by simp, rfl⟩
         · rcases i2 x hx with e | ⟨c', hc', e⟩
           · exact .inl e
           · exact .inr ⟨c', by simp [hc'], e⟩
theorem addC_some {k : ByteArray} {by_ : Int} : ∀ {L : List Chn}, (∀ c ∈ L, c.2 ≠ []) → ∀ c ∈ addC k by_ L, c.2 ≠ []
 | [], _, c, hc => by simp [addC] at hc; rw [hc]; simp
 | x :: L, h, c, hc => by
   rw [addC] at hc
   split at hc
   · rcases List.mem_cons.1 hc with rfl | hc
     · simp
     · exact h c hc
   · split at hc
     · rcases List.mem_cons.1 hc with rfl | hc
       · simp
       · exact h c (by simp [hc])
     · rcases List.mem_cons.1 hc with rfl | hc
       · exact h c (by simp)
       · exact addC_some (fun y hy => h y (by simp [hy])) c hc
theorem setC_srt {k : ByteArray} {v : Ver} {L : List Chn} (h : SrtC L) : SrtC (setC k v L) := by
 unfold SrtC setC
 rw [List.pairwise_map]
 refine h.imp fun {a b} hab => ?_
 have e : ∀ c : Chn, (if c.1 = k then (c.1, setV v c.2) else c).1 = c.1 := fun c => by split <;> rfl
 rw [e a, e b]; exact hab
theorem setC_some {k : ByteArray} {v : Ver} {L : List Chn} (h : ∀ c ∈ L, c.2 ≠ []) : ∀ c ∈ setC k v L, c.2 ≠ [] := fun c hc => by
 obtain ⟨x, hx, rfl⟩ := List.mem_map.1 hc
 split
 · simpa [setV] using h x hx
 · exact h x hx
theorem setV_by (v : Ver) (l : List Ver) : (setV v l).map Ver.by_ = l.map Ver.by_ := by
 simp only [setV, List.map_map]
 apply List.map_congr_left
 intro u _
 simp only [Function.comp]
 split
 · rename_i h; exact h.symm
 · rfl
theorem rise_by {a b : List Ver} (h : a.map Ver.by_ = b.map Ver.by_) (hb : Rise b) : Rise a := by
 have h1 : (b.map Ver.by_).Pairwise (· < ·) := List.pairwise_map.2 hb
 rw [← h] at h1
 exact List.pairwise_map.1 h1
theorem setV_rise {v : Ver} {l : List Ver} (h : Rise l) : Rise (setV v l) := rise_by (setV_by v l) h
theorem setV_len (v : Ver) (l : List Ver) : (setV v l).length = l.length := by simp [setV]
theorem rise_snoc {l : List Ver} {v : Ver} (h : Rise l) (hv : ∀ u ∈ l, u.by_ < v.by_) : Rise (l ++ [v]) := by
 unfold Rise
 rw [List.pairwise_append]
 exact ⟨h, List.pairwise_singleton _ _, fun a ha b hb => by simp at hb; rw [hb]; exact hv a ha⟩
end Go.Proofs.YtlhaeeenkgkdaaaGreatDoor

namespace Go.Proofs.YtlhaeeenkgkdaaaGreatDoor
open Go.RowKit

structure Eng where
 chains : List Chn
 deeds : List Deed3
 state : List Int
 ends : List End3
 base : Int
def noE : End3 := (false, zeroR)
def newE (r : List Row) : Eng := ⟨ofRows r, [], [], [], 0⟩
def addW (by_ : Int) (W : List ByteArray) (L : List Chn) : List Chn := W.foldl (fun L k => addC k by_ L) L
def addD (e : Eng) (d : Deed3) : Eng := ⟨addW (e.base + e.deeds.length) d.2.1 e.chains, e.deeds ++ [d], e.state ++ [0], e.ends ++ [noE], e.base⟩
def addAll (e : Eng) (l : List Deed3) : Eng := l.foldl addD e
def addKey (out : List ByteArray) (k : ByteArray) : List ByteArray := if has out k = true then out else out ++ [k]
def keysD (d : Deed3) : List ByteArray := (d.1 ++ d.2.1).foldl addKey []
def needE (e : Eng) (p k : Nat) : Bool := (keysD (e.deeds.getD p default)).any (fun x => !(before e.chains x (e.base + p)).made && decide ((before e.chains x (e.base + p)).by_ = e.base + k))
def needsE (e : Eng) (p : Nat) : List Nat := (List.range p).filter (needE e p)
def readyE (e : Eng) : List Nat := (List.range e.deeds.length).filter (fun p => decide (e.state.getD p 0 = 0) && (needsE e p).isEmpty)
def seesK (L : List Chn) (at_ : Int) (r : List Row) (k : ByteArray) : List Row := if (before L k at_).has_ = true then ins k (before L k at_).n r else r
def seesE (e : Eng) (p : Nat) : List Row := (keysD (e.deeds.getD p default)).foldl (seesK e.chains (e.base + p)) []
def setW (by_ : Int) (r : List Row) (W : List ByteArray) (L : List Chn) : List Chn := W.foldl (fun L k => setC k (by_, true, isAt k r, num k r) L) L
def goE (e : Eng) (p : Nat) : Eng :=
 ⟨setW (e.base + p) (doD (seesE e p) (e.deeds.getD p default)) (e.deeds.getD p default).2.1 e.chains, e.deeds, e.state.set p 1, e.ends.set p (endD (seesE e p) (e.deeds.getD p default)), e.base⟩

theorem addKey_mem {out : List ByteArray} {k x : ByteArray} : x ∈ addKey out k ↔ x ∈ out ∨ x = k := by
 unfold addKey
 split
 · rename_i h
   constructor
   · exact .inl
   · rintro (h1 | rfl)
     · exact h1
     · exact has_iff.1 h
 · simp
theorem keys_mem : ∀ (l out : List ByteArray) (x : ByteArray), x ∈ l.foldl addKey out ↔ x ∈ out ∨ x ∈ l
 | [], out, x => by simp
 | k :: l, out, x => by
   rw [List.foldl_cons, keys_mem l, addKey_mem, List.mem_cons]
   constructor
   · rintro ((h | h) | h)
     · exact .inl h
     · exact .inr (.inl h)
     · exact .inr (.inr h)
   · rintro (h | h | h)
     · exact .inl (.inl h)
     · exact .inl (.inr h)
     · exact .inr h
theorem keysD_mem {d : Deed3} {x : ByteArray} : x ∈ keysD d ↔ x ∈ d.1 ∨ x ∈ d.2.1 := by
 unfold keysD
 rw [keys_mem]
 simp
theorem addW_srt {by_ : Int} : ∀ (W : List ByteArray) {L : List Chn}, SrtC L → SrtC (addW by_ W L)
 | [], _, h => h
 | _ :: W, _, h => addW_srt W (addC_srt h).1
theorem addW_some {by_ : Int} : ∀ (W : List ByteArray) {L : List Chn}, (∀ c ∈ L, c.2 ≠ []) → ∀ c ∈ addW by_ W L, c.2 ≠ []
 | [], _, h => h
 | _ :: W, _, h => addW_some W (addC_some h)
theorem vsOf_addW {by_ : Int} {k : ByteArray} : ∀ (W : List ByteArray) {L : List Chn}, W.Nodup → SrtC L → vsOf k (addW by_ W L) = if has W k = true then vsOf k L ++ [newV by_] else vsOf k L
 | [], _, _, _ => by simp [addW, has]
 | x :: W, L, hn, hs => by
   rw [List.nodup_cons] at hn
   show vsOf k (addW by_ W (addC x by_ L)) = _
   rw [vsOf_addW W hn.2 (addC_srt hs).1]
   by_cases e : k = x
   · subst e
     rw [if_neg (fun h => hn.1 (has_iff.1 h)), if_pos (has_iff.2 (by simp)), vsOf_add k by_ L hs]
   · rw [vsOf_add_other by_ e L, has_cons, decide_eq_false (Ne.symm e), Bool.false_or]
theorem setW_srt {by_ : Int} {r : List Row} : ∀ (W : List ByteArray) {L : List Chn}, SrtC L → SrtC (setW by_ r W L)
 | [], _, h => h
 | _ :: W, _, h => setW_srt W (setC_srt h)
theorem setW_some {by_ : Int} {r : List Row} : ∀ (W : List ByteArray) {L : List Chn}, (∀ c ∈ L, c.2 ≠ []) → ∀ c ∈ setW by_ r W L, c.2 ≠ []
 | [], _, h => h
 | _ :: W, _, h => setW_some W (setC_some h)
theorem vsOf_setW {by_ : Int} {r : List Row} {k : ByteArray} : ∀ (W : List ByteArray) {L : List Chn}, W.Nodup → vsOf k (setW by_ r W L) = if has W k = true then setV (by_, true, isAt k r, num k r) (vsOf k L) else vsOf k L
 | [], _, _ => by simp [setW, has]
 | x :: W, L, hn => by
   rw [List.nodup_cons] at hn
   show vsOf k (setW by_ r W (setC x (by_, true, isAt x r, num x r) L)) = _
   rw [vsOf_setW W hn.2]
   by_cases e : k = x
   · subst e
     rw [if_neg (fun h => hn.1 (has_iff.1 h)), if_pos (has_iff.2 (by simp)), vsOf_set]
   · rw [vsOf_set_other _ e L, has_cons, decide_eq_false (Ne.symm e), Bool.false_or]
end Go.Proofs.YtlhaeeenkgkdaaaGreatDoor

namespace Go.Proofs.YtlhaeeenkgkdaaaGreatDoor
open Go.RowKit

def Spot (w : World) (B : Nat) (t : TypeId) (base : Option Addr) (n : Nat) : Prop := n = 0 ∨ (∀ a, base = some a → a.block < B) ∨ Kind w t base
theorem Spot.below {w w' : World} {B : Nat} {t : TypeId} {base : Option Addr} {n : Nat} (h : Spot w B t base n) (hb : Below w.heap.size w w') : Spot w' B t base n := h.imp id (fun h => h.imp id (fun k => k.below hb))
theorem own_apart {w : World} {B e t sz n b : Nat} {v : Value} {xs : List Value} (ho : w.ownsRow B e sz v n xs) (hb : b < B ∨ ∃ cur z, w.heap[b]? = some (.cells cur t z)) (hne : t ≠ e) : some b ≠ v.ownBlock := fun he => by
 rcases ho.2 with ⟨rfl, _⟩ | ⟨g, cap, cur, rfl, hB, hg, _⟩
 · simp [Value.ownBlock] at he
 · simp [Value.ownBlock] at he
   subst he
   rcases hb with hb | ⟨cur', z', hc⟩
   · omega
   · rw [hg] at hc
     simp at hc
     exact hne hc.2.1.symm
theorem Lies.grown {w w' : World} {B e sz n t s : Nat} {v : Value} {xs vs : List Value} {nb : Option Addr} {nn nc : Nat} (hs0 : 0 < s) (h : Lies w s nb nn nc vs) (hs : Spot w B t nb nn) (ho : w.ownsRow B e sz v n xs) (hne : t ≠ e) (hg : w.grownBy w' v.ownBlock) : Lies w' s nb nn nc vs ∧ Spot w' B t nb nn := by
 by_cases h0 : nn = 0
 · exact ⟨⟨h.len, h.hdr, .inl h0⟩, .inl h0⟩
 rcases hs with hs | hs
 · exact absurd hs h0
 rcases h.run with h1 | ⟨bl, o, rfl, hc⟩
 · exact absurd h1 h0
 have hlt := hc.lt (by rw [h.len]; exact Nat.mul_pos (by omega) hs0)
 have hap : some bl ≠ v.ownBlock := own_apart (t := t) ho (hs.imp (fun h => h _ rfl) (fun k => k _ rfl)) hne
 have hbl := hg.block bl hlt hap
 refine ⟨⟨h.len, h.hdr, .inr ⟨bl, o, rfl, fun j u hu => ?_⟩⟩, .inr (hs.imp id (fun k a e => ?_))⟩
 · rw [World.cell?_of_block (w := w) (a := ⟨bl, o + j, Option.none⟩) hbl]
   exact hc j u hu
 · obtain ⟨cur, z, hk⟩ := k a e
   have : a.block = bl := by cases e; rfl
   exact ⟨cur, z, by rw [this, hbl, ← this]; exact hk⟩
theorem Lies.spot {w : World} {nb : Option Addr} {s t nn nc : Nat} {vs : List Value} (hs0 : 0 < s) (h : Lies w s nb nn nc vs) : Spot w w.heap.size t nb nn := by
 rcases h.run with h1 | ⟨bl, o, rfl, hc⟩
 · exact .inl h1
 · by_cases h0 : nn = 0
   · exact .inl h0
   · exact .inr (.inl fun a e => by cases e; exact hc.lt (by rw [h.len]; exact Nat.mul_pos (by omega) hs0))
theorem Lies.kind {w : World} {base : Option Addr} {B e sz n c : Nat} {vs : List Value} (h : w.ownsRow B e sz (.slice base n c) n vs) (B' : Nat) : Spot w B' e base n := .inr (.inr (Kind.owned h))

def flat {α : Type} (f : α → List Value) (l : List α) : List Value := l.flatMap f
theorem flat_cons {α : Type} (f : α → List Value) (x : α) (l : List α) : flat f (x :: l) = f x ++ flat f l := by simp [flat]
theorem flat_append {α : Type} (f : α → List Value) (l m : List α) : flat f (l ++ m) = flat f l ++ flat f m := by simp [flat]
theorem flat_snoc {α : Type} (f : α → List Value) (l : List α) (x : α) : flat f (l ++ [x]) = flat f l ++ f x := by simp [flat]
theorem flat_length {α : Type} {f : α → List Value} {k : Nat} (hk : ∀ x, (f x).length = k) : ∀ l : List α, (flat f l).length = l.length * k
 | [] => by simp [flat]
 | x :: l => by rw [flat_cons, List.length_append, hk, flat_length hk l, List.length_cons, Nat.add_mul, Nat.one_mul, Nat.add_comm]
theorem flat_one {α : Type} {f : α → List Value} (h : ∀ x, ∀ u ∈ f x, u.oneCell' = true) (l : List α) : ∀ u ∈ flat f l, u.oneCell' = true := fun u hu => by
 obtain ⟨x, _, hx⟩ := List.mem_flatMap.1 hu
 exact h x u hx
theorem flat_at {α : Type} [Inhabited α] {f : α → List Value} {k : Nat} (hk : ∀ x, (f x).length = k) : ∀ (l : List α) (i : Nat), i < l.length → ∀ j u, (f (l.getD i default))[j]? = some u → (flat f l)[i * k + j]? = some u
 | [], i, h => absurd h (Nat.not_lt_zero _)
 | x :: l, 0, _ => fun j u hu => by
   rw [flat_cons, Nat.zero_mul, Nat.zero_add, List.getElem?_append_left]
   · simpa using hu
   · simpa using (List.getElem?_eq_some_iff.1 hu).1
 | x :: l, i + 1, h => fun j u hu => by
   have := flat_at hk l i (by simpa using h) j u (by simpa using hu)
   have e : (i + 1) * k + j = k + (i * k + j) := by rw [Nat.add_mul, Nat.one_mul]; omega
   rw [flat_cons, e, List.getElem?_append_right (by rw [hk]; omega), hk, Nat.add_sub_cancel_left]
   exact this
theorem Lies.count {α : Type} {f : α → List Value} {k : Nat} (hk : ∀ x, (f x).length = k) (h0 : 0 < k) {w : World} {base : Option Addr} {n c : Nat} {l : List α} (h : Lies w k base n c (flat f l)) : n = l.length := by
 have := h.len
 rw [flat_length hk] at this
 exact (Nat.eq_of_mul_eq_mul_right h0 this).symm
theorem Run.at_ {α : Type} [Inhabited α] {f : α → List Value} {k : Nat} (hk : ∀ x, (f x).length = k) {w : World} {b o : Nat} {l : List α} (h : Run w b o (flat f l)) {i : Nat} (hi : i < l.length) {j : Nat} {u : Value} (hu : (f (l.getD i default))[j]? = some u) : w.cell? ⟨b, o + i * k + j, none⟩ = some u := by
 rw [Nat.add_assoc]; exact h _ u (flat_at hk l i hi j u hu)
end Go.Proofs.YtlhaeeenkgkdaaaGreatDoor

namespace Go.Proofs.YtlhaeeenkgkdaaaGreatDoor
open Go.RowKit

def verC (v : Ver) : List Value := [.int .i64 v.by_, .bool v.made, .bool v.has_, .int .i64 v.n]
theorem verC_length (v : Ver) : (verC v).length = 4 := rfl
theorem verC_one (v : Ver) : ∀ u ∈ verC v, u.oneCell' = true := fun u hu => by
 simp [verC] at hu; rcases hu with rfl | rfl | rfl | rfl <;> rfl
abbrev Vers (w : World) (base : Option Addr) (n c : Nat) (l : List Ver) : Prop := Lies w 4 base n c (flat verC l)
theorem Vers.count {w : World} {base : Option Addr} {n c : Nat} {l : List Ver} (h : Vers w base n c l) : n = l.length := Lies.count verC_length (by decide) h
theorem Vers.cells {w : World} {b o : Nat} {l : List Ver} (h : Run w b o (flat verC l)) {i : Nat} (hi : i < l.length) :
   w.cell? ⟨b, o + i * 4, none⟩ = some (.int .i64 (l.getD i default).by_) ∧ w.cell? ⟨b, o + i * 4 + 1, none⟩ = some (.bool (l.getD i default).made) ∧ w.cell? ⟨b, o + i * 4 + 2, none⟩ = some (.bool (l.getD i default).has_) ∧ w.cell? ⟨b, o + i * 4 + 3, none⟩ = some (.int .i64 (l.getD i default).n) :=
 ⟨h.at_ verC_length hi (j := 0) rfl, h.at_ verC_length hi (j := 1) rfl, h.at_ verC_length hi (j := 2) rfl, h.at_ verC_length hi (j := 3) rfl⟩

def ChainHere (w : World) (b o : Nat) (x : Chn) : Prop := ∃ vb vn vc, w.cell? ⟨b, o, none⟩ = some (.string x.1) ∧ w.cell? ⟨b, o + 1, none⟩ = some (.slice vb vn vc) ∧ Vers w vb vn vc x.2 ∧ x.1.size ≤ maxLen
theorem ChainHere.below {w w' : World} {b o : Nat} {x : Chn} (h : ChainHere w b o x) (hb : Below w.heap.size w w') : ChainHere w' b o x := by
 obtain ⟨vb, vn, vc, h0, h1, h2, h3⟩ := h
 exact ⟨vb, vn, vc, kept_cell hb h0, kept_cell hb h1, h2.below (by decide) hb, h3⟩
structure ChainsIn (w : World) (base : Option Addr) (n c : Nat) (L : List Chn) : Prop where
 len : n = L.length
 hdr : Hdr base n c
 run : n = 0 ∨ ∃ b o, base = some ⟨b, o, none⟩ ∧ ∀ i, i < n → ChainHere w b (o + i * 2) (L.getD i default)
theorem ChainsIn.below {w w' : World} {base : Option Addr} {n c : Nat} {L : List Chn} (h : ChainsIn w base n c L) (hb : Below w.heap.size w w') : ChainsIn w' base n c L := by
 refine ⟨h.len, h.hdr, ?_⟩
 rcases h.run with h0 | ⟨b, o, e, hr⟩
 · exact .inl h0
 · exact .inr ⟨b, o, e, fun i hi => (hr i hi).below hb⟩
theorem ChainsIn.none (w : World) : ChainsIn w none 0 0 [] := ⟨rfl, ⟨Nat.le_refl _, Nat.zero_le _, fun _ => rfl⟩, .inl rfl⟩

abbrev Slot := ByteArray × Option Addr × Nat × Nat
def slotC (s : Slot) : List Value := [.string s.1, .slice s.2.1 s.2.2.1 s.2.2.2]
theorem slotC_length (s : Slot) : (slotC s).length = 2 := rfl
theorem slotC_one (s : Slot) : ∀ u ∈ slotC s, u.oneCell' = true := fun u hu => by
 simp [slotC] at hu; rcases hu with rfl | rfl <;> rfl
def SlotIs (w : World) (B t : Nat) (s : Slot) (x : Chn) : Prop := s.1 = x.1 ∧ Vers w s.2.1 s.2.2.1 s.2.2.2 x.2 ∧ Spot w B t s.2.1 s.2.2.1 ∧ x.1.size ≤ maxLen
theorem SlotIs.below {w w' : World} {B t : Nat} {s : Slot} {x : Chn} (h : SlotIs w B t s x) (hb : Below w.heap.size w w') : SlotIs w' B t s x :=
 ⟨h.1, h.2.1.below (by decide) hb, h.2.2.1.below hb, h.2.2.2⟩
theorem SlotIs.grown {w w' : World} {B e t sz n : Nat} {v : Value} {xs : List Value} {s : Slot} {x : Chn} (h : SlotIs w B t s x) (ho : w.ownsRow B e sz v n xs) (hne : t ≠ e) (hg : w.grownBy w' v.ownBlock) : SlotIs w' B t s x := by
 obtain ⟨h1, h2⟩ := h.2.1.grown (by decide) h.2.2.1 ho hne hg
 exact ⟨h.1, h1, h2, h.2.2.2⟩
def SlotsAre (w : World) (B t : Nat) (S : List Slot) (L : List Chn) : Prop := S.length = L.length ∧ ∀ i, i < L.length → SlotIs w B t (S.getD i default) (L.getD i default)
theorem SlotsAre.nil (w : World) (B t : Nat) : SlotsAre w B t [] [] := ⟨rfl, fun _ h => absurd h (Nat.not_lt_zero _)⟩
theorem SlotsAre.below {w w' : World} {B t : Nat} {S : List Slot} {L : List Chn} (h : SlotsAre w B t S L) (hb : Below w.heap.size w w') : SlotsAre w' B t S L := ⟨h.1, fun i hi => (h.2 i hi).below hb⟩
theorem SlotsAre.grown {w w' : World} {B e t sz n : Nat} {v : Value} {xs : List Value} {S : List Slot} {L : List Chn} (h : SlotsAre w B t S L) (ho : w.ownsRow B e sz v n xs) (hne : t ≠ e) (hg : w.grownBy w' v.ownBlock) : SlotsAre w' B t S L := ⟨h.1, fun i hi => (h.2 i hi).grown ho hne hg⟩
theorem SlotsAre.snoc {w : World} {B t : Nat} {S : List Slot} {L : List Chn} {s : Slot} {x : Chn} (h : SlotsAre w B t S L) (hs : SlotIs w B t s x) : SlotsAre w B t (S ++ [s]) (L ++ [x]) := by
 refine ⟨by simp [h.1], fun i hi => ?_⟩
 by_cases e : i < L.length
 · have e' : i < S.length := by rw [h.1]; exact e
   have := h.2 i e
   simpa [List.getD, List.getElem?_append_left e, List.getElem?_append_left e'] using this
 · have hi' : i = L.length := by simp at hi; omega
   subst hi'
   have e1 : (S ++ [s]).getD L.length default = s := by rw [← h.1]; simp [List.getD]
   have e2 : (L ++ [x]).getD L.length default = x := by simp [List.getD]
   rw [e1, e2]; exact hs
theorem chains_of_slots {w : World} {base : Option Addr} {n c B t : Nat} {S : List Slot} {L : List Chn} (h : Lies w 2 base n c (flat slotC S)) (hs : SlotsAre w B t S L) : ChainsIn w base n c L := by
 have hn : n = S.length := Lies.count slotC_length (by decide) h
 refine ⟨by rw [hn, hs.1], h.hdr, ?_⟩
 rcases h.run with h0 | ⟨b, o, e, hr⟩
 · exact .inl h0
 · refine .inr ⟨b, o, e, fun i hi => ?_⟩
   have hiS : i < S.length := by omega
   obtain ⟨e1, e2, _, e4⟩ := hs.2 i (by rw [← hs.1]; exact hiS)
   refine ⟨(S.getD i default).2.1, (S.getD i default).2.2.1, (S.getD i default).2.2.2, ?_, hr.at_ slotC_length hiS (j := 1) rfl, e2, e4⟩
   rw [← e1]
   exact hr.at_ slotC_length hiS (j := 0) rfl
end Go.Proofs.YtlhaeeenkgkdaaaGreatDoor
