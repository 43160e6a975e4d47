/-
  Plain mathematics of chains: what a version more, and one that is made, leave as it was.
  Plain mathematics of engines: deeds that are planned, and done in whatever order, leave what they leave one by one.
  What a row that grows does not touch: slices that lie elsewhere, by where they are or by what they are of; and values of one kind laid one behind the other.
  What it means that a slice in memory holds versions, and chains of them.
  A map in memory whose keys are texts: what it has at each key, whatever its elements are.
  What it means that a function of the program's own is entered when it is called by a value.
  How the program asks what a key has: its own doings first, then what it is shown.
  What a deed made, told in the order of the keys that it writes.
-/
import Derived.Test.YtnbekpblmkdnlaaGreatDoorChainFind
import Derived.Test.YtnbekpblmkdnlaaGreatDoorOpenDeeds
import Derived.Test.YtnbekpblmkdnlaaGreatDoorOpen
import Derived.Maps.OwnSet
import Derived.Test.YtnbekpblmkdnlaaGreatDoorChecked
import Derived.WalkKit
import Derived.Defers
import Derived.Recover
namespace Go.Proofs.YtnbekpblmkdnlaaGreatDoor
open Go.RowKit

theorem addC_srt {k : ByteArray} {by_ : Int} : ∀ {L : List Chn}, SrtC L → SrtC (addC k by_ L) ∧ ∀ x ∈ addC k by_ L, x.1 = k ∨ ∃ c ∈ L, x.1 = c.1
 | [], _ => ⟨List.pairwise_singleton _ _, fun x hx => by simp [addC] at hx; exact .inl (by rw [hx])⟩
 | c :: L, h => by
   obtain ⟨h1, h2⟩ := srtC_cons.1 h
   obtain ⟨i1, i2⟩ := addC_srt (k := k) (by_ := by_) h2
   rw [addC]
   by_cases e1 : less k c.1 = true
   · rw [if_pos e1]
     refine ⟨srtC_cons.2 ⟨fun y hy => ?_, h⟩, fun x hx => ?_⟩
     · rcases List.mem_cons.1 hy with rfl | hy
       · exact e1
       · exact less_trans e1 (h1 y hy)
     · rcases List.mem_cons.1 hx with rfl | hx
       · exact .inl rfl
       · exact .inr ⟨x, hx, rfl⟩
   · rw [if_neg e1]
     by_cases e2 : c.1 = k
     · rw [if_pos e2]
       refine ⟨srtC_cons.2 ⟨fun y hy => by rw [← e2]; exact h1 y hy, h2⟩, fun x hx => ?_⟩
       rcases List.mem_cons.1 hx with rfl | hx
       · exact .inl rfl
       · exact .inr ⟨x, by simp [hx], rfl⟩
     · rw [if_neg e2]
       refine ⟨srtC_cons.2 ⟨fun y hy => ?_, i1⟩, fun x hx => ?_⟩
       · rcases i2 y hy with e | ⟨c', hc', e⟩
         · rw [e]
           rcases less_cases c.1 k with g | g | g
           · exact g
           · exact absurd g e2
           · exact absurd g e1
         · rw [e]; exact h1 c' hc'
       · rcases List.mem_cons.1 hx with rfl | hx
         · exact .inr ⟨x, by simp, rfl⟩
         · rcases i2 x hx with e | ⟨c', hc', e⟩
           · exact .inl e
           · exact .inr ⟨c', by simp [hc'], e⟩
theorem addC_some {k : ByteArray} {by_ : Int} : ∀ {L : List Chn}, (∀ c ∈ L, c.2 ≠ []) → ∀ c ∈ addC k by_ L, c.2 ≠ []
 | [], _, c, hc => by simp [addC] at hc; rw [hc]; simp
 | x :: L, h, c, hc => by
   rw [addC] at hc
   split at hc
   · rcases List.mem_cons.1 hc with rfl | hc
     · simp
     · exact h c hc
   · split at hc
     · rcases List.mem_cons.1 hc with rfl | hc
       · simp
       · exact h c (by simp [hc])
     · rcases List.mem_cons.1 hc with rfl | hc
       · exact h c (by simp)
       · exact addC_some (fun y hy => h y (by simp [hy])) c hc
theorem setC_srt {k : ByteArray} {v : Ver} {L : List Chn} (h : SrtC L) : SrtC (setC k v L) := by
 unfold SrtC setC
 rw [List.pairwise_map]
 refine h.imp fun {a b} hab => ?_
 have e : ∀ c : Chn, (if c.1 = k then (c.1, setV v c.2) else c).1 = c.1 := fun c => by split <;> rfl
 rw [e a, e b]; exact hab
theorem setC_some {k : ByteArray} {v : Ver} {L : List Chn} (h : ∀ c ∈ L, c.2 ≠ []) : ∀ c ∈ setC k v L, c.2 ≠ [] := fun c hc => by
 obtain ⟨x, hx, rfl⟩ := List.mem_map.1 hc
 split
 · simpa [setV] using h x hx
 · exact h x hx
theorem setV_by (v : Ver) (l : List Ver) : (setV v l).map Ver.by_ = l.map Ver.by_ := by
 simp only [setV, List.map_map]
 apply List.map_congr_left
 intro u _
 simp only [Function.comp]
 split
 · rename_i h; exact h.symm
 · rfl
theorem rise_by {a b : List Ver} (h : a.map Ver.by_ = b.map Ver.by_) (hb : Rise b) : Rise a := by
 have h1 : (b.map Ver.by_).Pairwise (· < ·) := List.pairwise_map.2 hb
 rw [← h] at h1
 exact List.pairwise_map.1 h1
theorem setV_rise {v : Ver} {l : List Ver} (h : Rise l) : Rise (setV v l) := rise_by (setV_by v l) h
theorem setV_len (v : Ver) (l : List Ver) : (setV v l).length = l.length := by simp [setV]
theorem rise_snoc {l : List Ver} {v : Ver} (h : Rise l) (hv : ∀ u ∈ l, u.by_ < v.by_) : Rise (l ++ [v]) := by
 unfold Rise
 rw [List.pairwise_append]
 exact ⟨h, List.pairwise_singleton _ _, fun a ha b hb => by simp at hb; rw [hb]; exact hv a ha⟩
end Go.Proofs.YtnbekpblmkdnlaaGreatDoor

namespace Go.Proofs.YtnbekpblmkdnlaaGreatDoor
open Go.RowKit

structure Eng where
 chains : List Chn
 deeds : List Deed3
 state : List Int
 ends : List End3
 base : Int
def noE : End3 := (false, zeroR)
def newE (r : List Row) : Eng := ⟨ofRows r, [], [], [], 0⟩
def addW (by_ : Int) (W : List ByteArray) (L : List Chn) : List Chn := W.foldl (fun L k => addC k by_ L) L
def addD (e : Eng) (d : Deed3) : Eng := ⟨addW (e.base + e.deeds.length) d.2.1 e.chains, e.deeds ++ [d], e.state ++ [0], e.ends ++ [noE], e.base⟩
def addAll (e : Eng) (l : List Deed3) : Eng := l.foldl addD e
def addKey (out : List ByteArray) (k : ByteArray) : List ByteArray := if has out k = true then out else out ++ [k]
def keysD (d : Deed3) : List ByteArray := (d.1 ++ d.2.1).foldl addKey []
def needE (e : Eng) (p k : Nat) : Bool := (keysD (e.deeds.getD p default)).any (fun x => !(before e.chains x (e.base + p)).made && decide ((before e.chains x (e.base + p)).by_ = e.base + k))
def needsE (e : Eng) (p : Nat) : List Nat := (List.range p).filter (needE e p)
def readyE (e : Eng) : List Nat := (List.range e.deeds.length).filter (fun p => decide (e.state.getD p 0 = 0) && (needsE e p).isEmpty)
def seesK (L : List Chn) (at_ : Int) (r : List Row) (k : ByteArray) : List Row := if (before L k at_).has_ = true then ins k (before L k at_).n r else r
def seesE (e : Eng) (p : Nat) : List Row := (keysD (e.deeds.getD p default)).foldl (seesK e.chains (e.base + p)) []
def setW (by_ : Int) (r : List Row) (W : List ByteArray) (L : List Chn) : List Chn := W.foldl (fun L k => setC k (by_, true, isAt k r, num k r) L) L
def goE (e : Eng) (p : Nat) : Eng :=
 ⟨setW (e.base + p) (doD (seesE e p) (e.deeds.getD p default)) (e.deeds.getD p default).2.1 e.chains, e.deeds, e.state.set p 1, e.ends.set p (endD (seesE e p) (e.deeds.getD p default)), e.base⟩

theorem addKey_mem {out : List ByteArray} {k x : ByteArray} : x ∈ addKey out k ↔ x ∈ out ∨ x = k := by
 unfold addKey
 split
 · rename_i h
   constructor
   · exact .inl
   · rintro (h1 | rfl)
     · exact h1
     · exact has_iff.1 h
 · simp
theorem keys_mem : ∀ (l out : List ByteArray) (x : ByteArray), x ∈ l.foldl addKey out ↔ x ∈ out ∨ x ∈ l
 | [], out, x => by simp
 | k :: l, out, x => by
   rw [List.foldl_cons, keys_mem l, addKey_mem, List.mem_cons]
   constructor
   · rintro ((h | h) | h)
     · exact .inl h
     · exact .inr (.inl h)
     · exact .inr (.inr h)
   · rintro (h | h | h)
     · exact .inl (.inl h)
     · exact .inl (.inr h)
     · exact .inr h
theorem keysD_mem {d : Deed3} {x : ByteArray} : x ∈ keysD d ↔ x ∈ d.1 ∨ x ∈ d.2.1 := by
 unfold keysD
 rw [keys_mem]
 simp
theorem addW_srt {by_ : Int} : ∀ (W : List ByteArray) {L : List Chn}, SrtC L → SrtC (addW by_ W L)
 | [], _, h => h
 | _ :: W, _, h => addW_srt W (addC_srt h).1
theorem addW_some {by_ : Int} : ∀ (W : List ByteArray) {L : List Chn}, (∀ c ∈ L, c.2 ≠ []) → ∀ c ∈ addW by_ W L, c.2 ≠ []
 | [], _, h => h
 | _ :: W, _, h => addW_some W (addC_some h)
theorem vsOf_addW {by_ : Int} {k : ByteArray} : ∀ (W : List ByteArray) {L : List Chn}, W.Nodup → SrtC L → vsOf k (addW by_ W L) = if has W k = true then vsOf k L ++ [newV by_] else vsOf k L
 | [], _, _, _ => by simp [addW, has]
 | x :: W, L, hn, hs => by
   rw [List.nodup_cons] at hn
   show vsOf k (addW by_ W (addC x by_ L)) = _
   rw [vsOf_addW W hn.2 (addC_srt hs).1]
   by_cases e : k = x
   · subst e
     rw [if_neg (fun h => hn.1 (has_iff.1 h)), if_pos (has_iff.2 (by simp)), vsOf_add k by_ L hs]
   · rw [vsOf_add_other by_ e L, has_cons, decide_eq_false (Ne.symm e), Bool.false_or]
theorem setW_srt {by_ : Int} {r : List Row} : ∀ (W : List ByteArray) {L : List Chn}, SrtC L → SrtC (setW by_ r W L)
 | [], _, h => h
 | _ :: W, _, h => setW_srt W (setC_srt h)
theorem setW_some {by_ : Int} {r : List Row} : ∀ (W : List ByteArray) {L : List Chn}, (∀ c ∈ L, c.2 ≠ []) → ∀ c ∈ setW by_ r W L, c.2 ≠ []
 | [], _, h => h
 | _ :: W, _, h => setW_some W (setC_some h)
theorem vsOf_setW {by_ : Int} {r : List Row} {k : ByteArray} : ∀ (W : List ByteArray) {L : List Chn}, W.Nodup → vsOf k (setW by_ r W L) = if has W k = true then setV (by_, true, isAt k r, num k r) (vsOf k L) else vsOf k L
 | [], _, _ => by simp [setW, has]
 | x :: W, L, hn => by
   rw [List.nodup_cons] at hn
   show vsOf k (setW by_ r W (setC x (by_, true, isAt x r, num x r) L)) = _
   rw [vsOf_setW W hn.2]
   by_cases e : k = x
   · subst e
     rw [if_neg (fun h => hn.1 (has_iff.1 h)), if_pos (has_iff.2 (by simp)), vsOf_set]
   · rw [vsOf_set_other _ e L, has_cons, decide_eq_false (Ne.symm e), Bool.false_or]
end Go.Proofs.YtnbekpblmkdnlaaGreatDoor

namespace Go.Proofs.YtnbekpblmkdnlaaGreatDoor
open Go.RowKit

def Spot (w : World) (B : Nat) (t : TypeId) (base : Option Addr) (n : Nat) : Prop := n = 0 ∨ (∀ a, base = some a → a.block < B) ∨ Kind w t base
theorem Spot.below {w w' : World} {B : Nat} {t : TypeId} {base : Option Addr} {n : Nat} (h : Spot w B t base n) (hb : Below w.heap.size w w') : Spot w' B t base n := h.imp id (fun h => h.imp id (fun k => k.below hb))
theorem own_apart {w : World} {B e t sz n b : Nat} {v : Value} {xs : List Value} (ho : w.ownsRow B e sz v n xs) (hb : b < B ∨ ∃ cur z, w.heap[b]? = some (.cells cur t z)) (hne : t ≠ e) : some b ≠ v.ownBlock := fun he => by
 rcases ho.2 with ⟨rfl, _⟩ | ⟨g, cap, cur, rfl, hB, hg, _⟩
 · simp [Value.ownBlock] at he
 · simp [Value.ownBlock] at he
   subst he
   rcases hb with hb | ⟨cur', z', hc⟩
   · omega
   · rw [hg] at hc
     simp at hc
     exact hne hc.2.1.symm
theorem Lies.grown {w w' : World} {B e sz n t s : Nat} {v : Value} {xs vs : List Value} {nb : Option Addr} {nn nc : Nat} (hs0 : 0 < s) (h : Lies w s nb nn nc vs) (hs : Spot w B t nb nn) (ho : w.ownsRow B e sz v n xs) (hne : t ≠ e) (hg : w.grownBy w' v.ownBlock) : Lies w' s nb nn nc vs ∧ Spot w' B t nb nn := by
 by_cases h0 : nn = 0
 · exact ⟨⟨h.len, h.hdr, .inl h0⟩, .inl h0⟩
 rcases hs with hs | hs
 · exact absurd hs h0
 rcases h.run with h1 | ⟨bl, o, rfl, hc⟩
 · exact absurd h1 h0
 have hlt := hc.lt (by rw [h.len]; exact Nat.mul_pos (by omega) hs0)
 have hap : some bl ≠ v.ownBlock := own_apart (t := t) ho (hs.imp (fun h => h _ rfl) (fun k => k _ rfl)) hne
 have hbl := hg.block bl hlt hap
 refine ⟨⟨h.len, h.hdr, .inr ⟨bl, o, rfl, fun j u hu => ?_⟩⟩, .inr (hs.imp id (fun k a e => ?_))⟩
 · rw [World.cell?_of_block (w := w) (a := ⟨bl, o + j, Option.none⟩) hbl]
   exact hc j u hu
 · obtain ⟨cur, z, hk⟩ := k a e
   have : a.block = bl := by cases e; rfl
   exact ⟨cur, z, by rw [this, hbl, ← this]; exact hk⟩
theorem Lies.spot {w : World} {nb : Option Addr} {s t nn nc : Nat} {vs : List Value} (hs0 : 0 < s) (h : Lies w s nb nn nc vs) : Spot w w.heap.size t nb nn := by
 rcases h.run with h1 | ⟨bl, o, rfl, hc⟩
 · exact .inl h1
 · by_cases h0 : nn = 0
   · exact .inl h0
   · exact .inr (.inl fun a e => by cases e; exact hc.lt (by rw [h.len]; exact Nat.mul_pos (by omega) hs0))
theorem Lies.kind {w : World} {base : Option Addr} {B e sz n c : Nat} {vs : List Value} (h : w.ownsRow B e sz (.slice base n c) n vs) (B' : Nat) : Spot w B' e base n := .inr (.inr (Kind.owned h))

def flat {α : Type} (f : α → List Value) (l : List α) : List Value := l.flatMap f
theorem flat_cons {α : Type} (f : α → List Value) (x : α) (l : List α) : flat f (x :: l) = f x ++ flat f l := by simp [flat]
theorem flat_append {α : Type} (f : α → List Value) (l m : List α) : flat f (l ++ m) = flat f l ++ flat f m := by simp [flat]
theorem flat_snoc {α : Type} (f : α → List Value) (l : List α) (x : α) : flat f (l ++ [x]) = flat f l ++ f x := by simp [flat]
theorem flat_length {α : Type} {f : α → List Value} {k : Nat} (hk : ∀ x, (f x).length = k) : ∀ l : List α, (flat f l).length = l.length * k
 | [] => by simp [flat]
 | x :: l => by rw [flat_cons, List.length_append, hk, flat_length hk l, List.length_cons, Nat.add_mul, Nat.one_mul, Nat.add_comm]
theorem flat_one {α : Type} {f : α → List Value} (h : ∀ x, ∀ u ∈ f x, u.oneCell' = true) (l : List α) : ∀ u ∈ flat f l, u.oneCell' = true := fun u hu => by
 obtain ⟨x, _, hx⟩ := List.mem_flatMap.1 hu
 exact h x u hx
theorem flat_at {α : Type} [Inhabited α] {f : α → List Value} {k : Nat} (hk : ∀ x, (f x).length = k) : ∀ (l : List α) (i : Nat), i < l.length → ∀ j u, (f (l.getD i default))[j]? = some u → (flat f l)[i * k + j]? = some u
 | [], i, h => absurd h (Nat.not_lt_zero _)
 | x :: l, 0, _ => fun j u hu => by
   rw [flat_cons, Nat.zero_mul, Nat.zero_add, List.getElem?_append_left]
   · simpa using hu
   · simpa using (List.getElem?_eq_some_iff.1 hu).1
 | x :: l, i + 1, h => fun j u hu => by
   have := flat_at hk l i (by simpa using h) j u (by simpa using hu)
   have e : (i + 1) * k + j = k + (i * k + j) := by rw [Nat.add_mul, Nat.one_mul]; omega
   rw [flat_cons, e, List.getElem?_append_right (by rw [hk]; omega), hk, Nat.add_sub_cancel_left]
   exact this
theorem Lies.count {α : Type} {f : α → List Value} {k : Nat} (hk : ∀ x, (f x).length = k) (h0 : 0 < k) {w : World} {base : Option Addr} {n c : Nat} {l : List α} (h : Lies w k base n c (flat f l)) : n = l.length := by
 have := h.len
 rw [flat_length hk] at this
 exact (Nat.eq_of_mul_eq_mul_right h0 this).symm
theorem Run.at_ {α : Type} [Inhabited α] {f : α → List Value} {k : Nat} (hk : ∀ x, (f x).length = k) {w : World} {b o : Nat} {l : List α} (h : Run w b o (flat f l)) {i : Nat} (hi : i < l.length) {j : Nat} {u : Value} (hu : (f (l.getD i default))[j]? = some u) : w.cell? ⟨b, o + i * k + j, none⟩ = some u := by
 rw [Nat.add_assoc]; exact h _ u (flat_at hk l i hi j u hu)
end Go.Proofs.YtnbekpblmkdnlaaGreatDoor

namespace Go.Proofs.YtnbekpblmkdnlaaGreatDoor
open Go.RowKit

def verC (v : Ver) : List Value := [.int .i64 v.by_, .bool v.made, .bool v.has_, .int .i64 v.n]
theorem verC_length (v : Ver) : (verC v).length = 4 := rfl
theorem verC_one (v : Ver) : ∀ u ∈ verC v, u.oneCell' = true := fun u hu => by
 simp [verC] at hu; rcases hu with rfl | rfl | rfl | rfl <;> rfl
abbrev Vers (w : World) (base : Option Addr) (n c : Nat) (l : List Ver) : Prop := Lies w 4 base n c (flat verC l)
theorem Vers.count {w : World} {base : Option Addr} {n c : Nat} {l : List Ver} (h : Vers w base n c l) : n = l.length := Lies.count verC_length (by decide) h
theorem Vers.cells {w : World} {b o : Nat} {l : List Ver} (h : Run w b o (flat verC l)) {i : Nat} (hi : i < l.length) :
   w.cell? ⟨b, o + i * 4, none⟩ = some (.int .i64 (l.getD i default).by_) ∧ w.cell? ⟨b, o + i * 4 + 1, none⟩ = some (.bool (l.getD i default).made) ∧ w.cell? ⟨b, o + i * 4 + 2, none⟩ = some (.bool (l.getD i default).has_) ∧ w.cell? ⟨b, o + i * 4 + 3, none⟩ = some (.int .i64 (l.getD i default).n) :=
 ⟨h.at_ verC_length hi (j := 0) rfl, h.at_ verC_length hi (j := 1) rfl, h.at_ verC_length hi (j := 2) rfl, h.at_ verC_length hi (j := 3) rfl⟩

def ChainHere (w : World) (b o : Nat) (x : Chn) : Prop := ∃ vb vn vc, w.cell? ⟨b, o, none⟩ = some (.string x.1) ∧ w.cell? ⟨b, o + 1, none⟩ = some (.slice vb vn vc) ∧ Vers w vb vn vc x.2 ∧ x.1.size ≤ maxLen
theorem ChainHere.below {w w' : World} {b o : Nat} {x : Chn} (h : ChainHere w b o x) (hb : Below w.heap.size w w') : ChainHere w' b o x := by
 obtain ⟨vb, vn, vc, h0, h1, h2, h3⟩ := h
 exact ⟨vb, vn, vc, kept_cell hb h0, kept_cell hb h1, h2.below (by decide) hb, h3⟩
structure ChainsIn (w : World) (base : Option Addr) (n c : Nat) (L : List Chn) : Prop where
 len : n = L.length
 hdr : Hdr base n c
 run : n = 0 ∨ ∃ b o, base = some ⟨b, o, none⟩ ∧ ∀ i, i < n → ChainHere w b (o + i * 2) (L.getD i default)
theorem ChainsIn.below {w w' : World} {base : Option Addr} {n c : Nat} {L : List Chn} (h : ChainsIn w base n c L) (hb : Below w.heap.size w w') : ChainsIn w' base n c L := by
 refine ⟨h.len, h.hdr, ?_⟩
 rcases h.run with h0 | ⟨b, o, e, hr⟩
 · exact .inl h0
 · exact .inr ⟨b, o, e, fun i hi => (hr i hi).below hb⟩
theorem ChainsIn.none (w : World) : ChainsIn w none 0 0 [] := ⟨rfl, ⟨Nat.le_refl _, Nat.zero_le _, fun _ => rfl⟩, .inl rfl⟩

abbrev Slot := ByteArray × Option Addr × Nat × Nat
def slotC (s : Slot) : List Value := [.string s.1, .slice s.2.1 s.2.2.1 s.2.2.2]
theorem slotC_length (s : Slot) : (slotC s).length = 2 := rfl
theorem slotC_one (s : Slot) : ∀ u ∈ slotC s, u.oneCell' = true := fun u hu => by
 simp [slotC] at hu; rcases hu with rfl | rfl <;> rfl
def SlotIs (w : World) (B t : Nat) (s : Slot) (x : Chn) : Prop := s.1 = x.1 ∧ Vers w s.2.1 s.2.2.1 s.2.2.2 x.2 ∧ Spot w B t s.2.1 s.2.2.1 ∧ x.1.size ≤ maxLen
theorem SlotIs.below {w w' : World} {B t : Nat} {s : Slot} {x : Chn} (h : SlotIs w B t s x) (hb : Below w.heap.size w w') : SlotIs w' B t s x :=
 ⟨h.1, h.2.1.below (by decide) hb, h.2.2.1.below hb, h.2.2.2⟩
theorem SlotIs.grown {w w' : World} {B e t sz n : Nat} {v : Value} {xs : List Value} {s : Slot} {x : Chn} (h : SlotIs w B t s x) (ho : w.ownsRow B e sz v n xs) (hne : t ≠ e) (hg : w.grownBy w' v.ownBlock) : SlotIs w' B t s x := by
 obtain ⟨h1, h2⟩ := h.2.1.grown (by decide) h.2.2.1 ho hne hg
 exact ⟨h.1, h1, h2, h.2.2.2⟩
def SlotsAre (w : World) (B t : Nat) (S : List Slot) (L : List Chn) : Prop := S.length = L.length ∧ ∀ i, i < L.length → SlotIs w B t (S.getD i default) (L.getD i default)
theorem SlotsAre.nil (w : World) (B t : Nat) : SlotsAre w B t [] [] := ⟨rfl, fun _ h => absurd h (Nat.not_lt_zero _)⟩
theorem SlotsAre.below {w w' : World} {B t : Nat} {S : List Slot} {L : List Chn} (h : SlotsAre w B t S L) (hb : Below w.heap.size w w') : SlotsAre w' B t S L := ⟨h.1, fun i hi => (h.2 i hi).below hb⟩
theorem SlotsAre.grown {w w' : World} {B e t sz n : Nat} {v : Value} {xs : List Value} {S : List Slot} {L : List Chn} (h : SlotsAre w B t S L) (ho : w.ownsRow B e sz v n xs) (hne : t ≠ e) (hg : w.grownBy w' v.ownBlock) : SlotsAre w' B t S L := ⟨h.1, fun i hi => (h.2 i hi).grown ho hne hg⟩
theorem SlotsAre.snoc {w : World} {B t : Nat} {S : List Slot} {L : List Chn} {s : Slot} {x : Chn} (h : SlotsAre w B t S L) (hs : SlotIs w B t s x) : SlotsAre w B t (S ++ [s]) (L ++ [x]) := by
 refine ⟨by simp [h.1], fun i hi => ?_⟩
 by_cases e : i < L.length
 · have e' : i < S.length := by rw [h.1]; exact e
   have := h.2 i e
   simpa [List.getD, List.getElem?_append_left e, List.getElem?_append_left e'] using this
 · have hi' : i = L.length := by simp at hi; omega
   subst hi'
   have e1 : (S ++ [s]).getD L.length default = s := by rw [← h.1]; simp [List.getD]
   have e2 : (L ++ [x]).getD L.length default = x := by simp [List.getD]
   rw [e1, e2]; exact hs
theorem chains_of_slots {w : World} {base : Option Addr} {n c B t : Nat} {S : List Slot} {L : List Chn} (h : Lies w 2 base n c (flat slotC S)) (hs : SlotsAre w B t S L) : ChainsIn w base n c L := by
 have hn : n = S.length := Lies.count slotC_length (by decide) h
 refine ⟨by rw [hn, hs.1], h.hdr, ?_⟩
 rcases h.run with h0 | ⟨b, o, e, hr⟩
 · exact .inl h0
 · refine .inr ⟨b, o, e, fun i hi => ?_⟩
   have hiS : i < S.length := by omega
   obtain ⟨e1, e2, _, e4⟩ := hs.2 i (by rw [← hs.1]; exact hiS)
   refine ⟨(S.getD i default).2.1, (S.getD i default).2.2.1, (S.getD i default).2.2.2, ?_, hr.at_ slotC_length hiS (j := 1) rfl, e2, e4⟩
   rw [← e1]
   exact hr.at_ slotC_length hiS (j := 0) rfl
end Go.Proofs.YtnbekpblmkdnlaaGreatDoor

namespace Go.Proofs.YtnbekpblmkdnlaaGreatDoor
open Go.RowKit

def asIs : Value → Option (DataW Value × List MemPlace) := fun v => some (.held v, [])
def keyLit (k : ByteArray) : Lit := .string k.data.toList
theorem keyLit_inj {a b : ByteArray} (h : keyLit a = keyLit b) : a = b := by
 cases a; cases b; simpa [keyLit] using h
theorem keyLit_is (k : ByteArray) : WideAt.IsKeyLit (keyLit k) := by simp [keyLit, WideAt.IsKeyLit]

def MapIs (w : World) (b n : Nat) (f : ByteArray → Option Value) : Prop :=
 ∃ D : DataW Value, w.ownsMap Tryz.prog 9 asIs b n D ∧ (∀ k, f k = none → Maps.has D (keyLit k) = false) ∧ (∀ k v, f k = some v → Maps.has D (keyLit k) = true ∧ ∀ z, D.atKey (keyLit k) z = .held v)

theorem MapIs.made (w : World) : MapIs (w.alloc (.map #[] 0)) w.heap.size 0 (fun _ => none) :=
 ⟨_, World.ownsMap_made w _ _ _, fun _ _ => rfl, fun _ _ h => by cases h⟩
theorem MapIs.lt {w : World} {b n : Nat} {f : ByteArray → Option Value} (h : MapIs w b n f) : b < w.heap.size := by
 obtain ⟨D, h, _⟩ := h; exact h.lt
theorem MapIs.block {w w' : World} {b n : Nat} {f : ByteArray → Option Value} (h : MapIs w b n f) (hb : w'.heap[b]? = w.heap[b]?) : MapIs w' b n f := by
 obtain ⟨D, ⟨es, clock, h1, h2⟩, r⟩ := h
 exact ⟨D, ⟨es, clock, hb.trans h1, h2⟩, r⟩
theorem MapIs.below {w w' : World} {b n B : Nat} {f : ByteArray → Option Value} (h : MapIs w b n f) (hb : Below B w w') (hB : b < B) : MapIs w' b n f := h.block (hb.block b hB)
theorem MapIs.alloc {w : World} {b n : Nat} {f : ByteArray → Option Value} (h : MapIs w b n f) (o : Obj) : MapIs (w.alloc o) b n f := h.block (Below.heap_alloc _ _ _ h.lt)
theorem MapIs.setCell {w : World} {b n : Nat} {f : ByteArray → Option Value} (h : MapIs w b n f) {a : Addr} (ha : b ≠ a.block) (u : Value) : MapIs (w.setCell a u) b n f := h.block (Below.heap_setCell _ _ _ _ ha)
theorem MapIs.ext {w : World} {b n : Nat} {f g : ByteArray → Option Value} (h : MapIs w b n f) (e : ∀ k, f k = g k) : MapIs w b n g := by
 have : f = g := funext e
 rwa [← this]

theorem key_law : Maps.Keyed Tryz.prog 9 := Maps.string_keyed Tryz.underlying9

theorem MapIs.look {w : World} {b n : Nat} {f : ByteArray → Option Value} (h : MapIs w b n f) {t e : TypeId} (ht : Tryz.prog.underlying t = some (.map 9 e)) {z : Value} (hz : (zeroValue e).run Tryz.prog w = .ok z w) (k : ByteArray) (hk : k.size ≤ maxLen) :
   (Instr.lookup t (.map (some b)) (.string k) true).run Tryz.prog w = .ok (.tuple #[(f k).getD z, .bool (f k).isSome]) w := by
 obtain ⟨D, h, h0, h1⟩ := h
 obtain ⟨v, ps, hr, hv⟩ := h.look_ok key_law ht hz (zd := .held z) (zp := []) rfl (WideMaps.keyOf_string_mk Tryz.underlying9 hk)
 rw [hr]
 cases hf : f k with
 | none =>
   have hn := h0 k hf
   have := Maps.atKey_of_not_has hn (.held z)
   simp only [asIs, Option.some.injEq, Prod.mk.injEq] at hv
   have e1 : DataW.held v = .held z := by rw [hv.1]; exact this
   cases e1
   have : Maps.has D (.string k.data.toList) = false := hn
   rw [this]; rfl
 | some u =>
   obtain ⟨hn, ha⟩ := h1 k u hf
   simp only [asIs, Option.some.injEq, Prod.mk.injEq] at hv
   have e1 : DataW.held v = .held u := by rw [hv.1]; exact ha _
   cases e1
   have : Maps.has D (.string k.data.toList) = true := hn
   rw [this]; rfl

theorem MapIs.put {w : World} {b n : Nat} {f : ByteArray → Option Value} (h : MapIs w b n f) {t e : TypeId} (ht : Tryz.prog.underlying t = some (.map 9 e)) (hn : n < maxLen) (k : ByteArray) (hk : k.size ≤ maxLen) (v : Value) :
   ∃ w', (Instr.mapUpdate t (.map (some b)) (.string k) v).run Tryz.prog w = .ok () w' ∧ MapIs w' b (n + 1) (fun j => if j = k then some v else f j) ∧ w.grownBy w' (some b) := by
 obtain ⟨D, h, h0, h1⟩ := h
 obtain ⟨w', hr, ho, hg⟩ := h.update key_law ht hn (WideMaps.keyOf_string_mk Tryz.underlying9 hk) (val := v) (d := .held v) (ps := []) rfl
 rw [show Lit.string k.data.toList = keyLit k from rfl] at ho
 refine ⟨w', hr, ⟨_, ho, fun j hj => ?_, fun j u hj => ?_⟩, hg⟩
 · by_cases e : j = k
   · simp [e] at hj
   · simp only [if_neg e] at hj
     rw [Maps.has_put_other (fun x => e (keyLit_inj x))]
     exact h0 j hj
 · by_cases e : j = k
   · subst e
     simp at hj
     subst hj
     exact ⟨Maps.has_put_same h.isMap (keyLit_is _) _, fun z => Maps.atKey_put_same h.isMap (keyLit_is _) _ z⟩
   · simp only [if_neg e] at hj
     obtain ⟨g1, g2⟩ := h1 j u hj
     exact ⟨by rw [Maps.has_put_other (fun x => e (keyLit_inj x))]; exact g1, fun z => by rw [Maps.atKey_put_other (fun x => e (keyLit_inj x))]; exact g2 z⟩

theorem wpList_put (w : World) {ops : Array Oper} {rest : List Oper} {o : Oper} {a : Act} {Q : Exit → Act → World → Prop}
   (hg : o.guard = none) (m x v : Operand) (t : TypeId) (hop : o.op = Op.mapUpdate t m x v) (e : TypeId) (ht : Tryz.prog.underlying t = some (.map 9 e)) (b n : Nat) (f : ByteArray → Option Value)
   (hm : a.eval m = .map (some b)) (h : MapIs w b n f) (hn : n < maxLen) (k : ByteArray) (hk : k.size ≤ maxLen) (val : Value) (hx : a.eval x = .string k) (hv : a.eval v = val)
   (hK : ∀ w', MapIs w' b (n + 1) (fun j => if j = k then some val else f j) → w.grownBy w' (some b) → wpList Tryz.prog ops Q rest (a.put o.dst undef) w') :
   wpList Tryz.prog ops Q (o :: rest) a w := by
 refine wpList_plain hg fun K' hK' => ?_
 obtain ⟨w', hrun, r1, r2⟩ := h.put ht hn k hk val
 unfold Oper.wp
 simp [execOp, hop, hm, hx, hv, hrun, Result.andThen]
 exact hK' _ _ (hK w' r1 r2)
end Go.Proofs.YtnbekpblmkdnlaaGreatDoor

namespace Go.Proofs.YtnbekpblmkdnlaaGreatDoor
open Go.RowKit

def Entered (F : Nat) : Prop := ∀ (args : Array Value) (w : World), (callFunc F args).run Tryz.prog w = .ok (.enter F args) w
end Go.Proofs.YtnbekpblmkdnlaaGreatDoor

namespace Go.Proofs.YtnbekpblmkdnlaaGreatDoor
open Go.RowKit

theorem ask_idle (p : Addr) (w : World) :
   CallsD Tryz.prog 129 #[.pointer (some p)] .returning w fun e u' w' => e = .returned (.tuple #[]) ∧ u' = .returning ∧ w' = w := by
 refine callsD_of_wpS Tryz.func129 rfl fun c₀ cs hu => ?_
 apply wpS_seq
 apply wpS_region
 simp [wpOpsS, go_sem, recoverD, hu, Tryz.ntmps129, Exit.thenS]
 refine wpS_cond (t := false) (by simp [Act.eval, Array.replicate]) ?_
 simp only [Bool.false_eq_true, if_false]
 refine wpS_of_wp (wp_skip ?_)
 cases c₀
 simp_all [bodyPostS, results, Tryz.results129]

def Tells (w : World) (F : Nat) (caps : Array Value) (k : ByteArray) (x : Int) : Prop :=
 ∀ w0, Below w.heap.size w w0 → Calls Tryz.prog F (#[.string k] ++ caps) w0 fun e w' => (∃ (t : Int) (ok : Bool), e = .returned (.tuple #[.int .i64 t, .bool ok]) ∧ (if ok = true then t else 0) = x) ∧ Below w0.heap.size w0 w'
theorem Tells.below {w w1 : World} {F : Nat} {caps : Array Value} {k : ByteArray} {x : Int} (h : Tells w F caps k x) (hb : Below w.heap.size w w1) : Tells w1 F caps k x := fun w0 h0 => h w0 (below_deep hb h0)

theorem ask_calls (F : Nat) (caps : Array Value) (k : ByteArray) (x : Int) (w : World) (hcf : Entered F) (hv : Tells w F caps k x) :
   Calls Tryz.prog 107 #[.func (.func F) #[] caps, .string k] w fun e w' => e = .returned (.int .i64 x) ∧ Below w.heap.size w w' := by
 have hmf : ∀ (fn : Fn) (first cap : Array Value) (w : World), (Instr.makeFunc fn first cap).run Tryz.prog w = .ok (.func fn first cap) w := fun _ _ _ _ => rfl
 have HV := hid hv
 unfold Entered at hcf
 clear hv
 go_enter_defers Tryz.func107, Tryz.ntmps107
 go_wp2_with fail
 refine (HV.out _ ((Below.refl _ _).alloc (Nat.le_refl _) _)).mono ?_
 rintro e w1 ⟨⟨t, ok, rfl, ht⟩, hb⟩
 have HT := hid ht
 have HB := hid (below_deep ((Below.refl _ w).alloc (Nat.le_refl _) _) hb)
 have hc := kept_cell hb (box_cell w _ 3 0 (.int .i64 0) rfl)
 have hz : w1.frozen? ⟨w.heap.size, 0, none⟩ = false := by rw [hb.frozen (p := ⟨w.heap.size, 0, none⟩) (by simp)]; simp [go_sem]
 have hlt : w.heap.size < w1.heap.size := by have := hb.size; simp at this; omega
 clear ht hb
 cases ok with
 | true =>
   go_wp2
   refine leaves_cons (f := 129) (args := #[.pointer (some ⟨w.heap.size, 0, none⟩)]) (by simp) (by simp [go_sem]) ?_
   refine (ask_idle ⟨w.heap.size, 0, none⟩ _).mono ?_
   rintro e u' w'' ⟨rfl, rfl, rfl⟩
   have hcc : (w1.setCell ⟨w.heap.size, 0, none⟩ (.int .i64 t)).cell? ⟨w.heap.size, 0, none⟩ = some (.int .i64 t) := World.cell?_setCell_same _ _ _ hc
   simp [Leaves, settle, results, Tryz.results107, go_sem, hcc]
   exact ⟨by simpa using HT.out, HB.out.setCell (p := ⟨w.heap.size, 0, none⟩) (Nat.le_refl _) _⟩
 | false =>
   go_wp2
   refine leaves_cons (f := 129) (args := #[.pointer (some ⟨w.heap.size, 0, none⟩)]) (by simp) (by simp [go_sem]) ?_
   refine (ask_idle ⟨w.heap.size, 0, none⟩ _).mono ?_
   rintro e u' w'' ⟨rfl, rfl, rfl⟩
   have hcc : (w1.setCell ⟨w.heap.size, 0, none⟩ (.int .i64 0)).cell? ⟨w.heap.size, 0, none⟩ = some (.int .i64 0) := World.cell?_setCell_same _ _ _ hc
   simp [Leaves, settle, results, Tryz.results107, go_sem, hcc]
   exact ⟨by simpa using HT.out, HB.out.setCell (p := ⟨w.heap.size, 0, none⟩) (Nat.le_refl _) _⟩

def verVal (o : Option Int) : Value := match o with
 | some n => .agg #[.int .i64 0, .bool true, .bool true, .int .i64 n]
 | none => .agg #[.int .i64 0, .bool true, .bool false, .int .i64 0]
def verMap (m : Made) : ByteArray → Option Value := fun k => (m k).map verVal
theorem verMap_set (m : Made) (k : ByteArray) (o : Option Int) : verMap (setM m k o) = fun j => if j = k then some (verVal o) else verMap m j := by
 funext j; unfold verMap setM; split <;> rfl
theorem verZero (w : World) : (zeroValue 93).run Tryz.prog w = .ok (.agg #[.int .i64 0, .bool false, .bool false, .int .i64 0]) w := by kernel_rfl

set_option maxHeartbeats 1000000 in
theorem has_calls (F : Nat) (caps : Array Value) (k : ByteArray) (v : ByteArray → Int) (m : Made) (mb mo n vb vo : Nat) (mm : Nat) (w : World) (hcf : Entered F) (hk : k.size ≤ maxLen) (hv : Tells w F caps k (v k))
   (hmc : w.cell? ⟨mb, mo, none⟩ = some (.map (some mm))) (hvc : w.cell? ⟨vb, vo, none⟩ = some (.func (.func F) #[] caps)) (hm : MapIs w mm n (verMap m)) :
   Calls Tryz.prog 106 #[.string k, .pointer (some ⟨mb, mo, none⟩), .pointer (some ⟨vb, vo, none⟩)] w fun e w' => e = .returned (.int .i64 (look v m k)) ∧ Below w.heap.size w w' := by
 have hl := hm.look Tryz.underlying145 (verZero w) k hk
 have hvb : vb < w.heap.size := by simpa using World.block_lt_of_cell? _ _ hvc
 have hmb : mb < w.heap.size := by simpa using World.block_lt_of_cell? _ _ hmc
 have HM : Hid (look v m k = match m k with | some (some n) => n | some none => 0 | none => v k) := rfl
 generalize look v m k = x at *
 unfold verMap at hl
 clear hm
 cases h : m k with
 | none =>
   rw [h] at hl HM
   simp only [Option.map_none, Option.getD_none, Option.isSome_none] at hl
   have HA := hid (fun W hb => ask_calls F caps k (v k) W hcf (hv.below hb))
   clear hv hcf h
   go_enter Tryz.func106, Tryz.ntmps106
   go_wp2_with fail
   refine (HA.out _ ((Below.refl _ _).alloc (Nat.le_refl _) _)).mono ?_
   rintro e w1 ⟨rfl, hb⟩
   go_wp2
   go_ret
   exact ⟨ret_int HM.out.symm, below_deep ((Below.refl _ _).alloc (Nat.le_refl _) _) hb⟩
 | some o =>
   rw [h] at hl HM
   cases o with
   | none =>
     simp only [Option.map_some, Option.getD_some, Option.isSome_some, verVal] at hl
     clear hv hcf h
     go_enter Tryz.func106, Tryz.ntmps106
     go_wp2
     go_ret
     exact ⟨ret_int HM.out.symm, (Below.refl _ _).alloc (Nat.le_refl _) _⟩
   | some y =>
     simp only [Option.map_some, Option.getD_some, Option.isSome_some, verVal] at hl
     clear hv hcf h
     go_enter Tryz.func106, Tryz.ntmps106
     go_wp2
     go_ret
     exact ⟨ret_int HM.out.symm, (Below.refl _ _).alloc (Nat.le_refl _) _⟩
end Go.Proofs.YtnbekpblmkdnlaaGreatDoor

namespace Go.Proofs.YtnbekpblmkdnlaaGreatDoor
open Go.RowKit

def verCell (o : Option Int) : List Value := match o with
 | some n => [.int .i64 0, .bool true, .bool true, .int .i64 n]
 | none => [.int .i64 0, .bool true, .bool false, .int .i64 0]
def verCells : List (ByteArray × Option Int) → List Value
 | [] => []
 | x :: l => verCell x.2 ++ verCells l
theorem verCell_length (o : Option Int) : (verCell o).length = 4 := by cases o <;> rfl
theorem verCell_one (o : Option Int) : ∀ u ∈ verCell o, u.oneCell' = true := by
 intro u hu; cases o <;> simp [verCell] at hu <;> rcases hu with rfl | rfl | rfl | rfl <;> rfl
theorem verCells_append : ∀ l m, verCells (l ++ m) = verCells l ++ verCells m
 | [], _ => rfl
 | x :: l, m => by simp [verCells, verCells_append l m]
theorem verCells_length : ∀ l, (verCells l).length = l.length * 4
 | [] => rfl
 | x :: l => by simp [verCells, verCell_length, verCells_length l]; omega
theorem verCells_at : ∀ (l : List (ByteArray × Option Int)) (k : Nat), k < l.length → ∀ j u, (verCell (l.getD k default).2)[j]? = some u → (verCells l)[k * 4 + j]? = some u
 | [], k, h => absurd h (Nat.not_lt_zero _)
 | x :: l, 0, _ => fun j u hu => by
   rw [verCells, List.getElem?_append_left]
   · simpa using hu
   · simpa using (List.getElem?_eq_some_iff.1 hu).1
 | x :: l, k + 1, h => fun j u hu => by
   have := verCells_at l k (by simpa using h) j u (by simpa using hu)
   rw [verCells, List.getElem?_append_right (by rw [verCell_length]; omega), verCell_length]
   rw [show (k + 1) * 4 + j - 4 = k * 4 + j from by omega]
   exact this
def keysOf (l : List (ByteArray × Option Int)) : List ByteArray := l.map (·.1)

theorem lies_one (w : World) (vs : Array Value) (t sz : Nat) (h : vs.size = sz) : Lies (w.alloc (.cells vs t)) sz (some ⟨w.heap.size, 0, none⟩) 1 1 vs.toList := by
 refine ⟨by simp [h], ⟨Nat.le_refl _, by unfold maxLen; omega, fun h => by cases h⟩, .inr ⟨_, _, rfl, fun j u hu => ?_⟩⟩
 rw [Nat.zero_add]
 exact box_cell _ _ _ _ _ (by simpa using hu)
theorem rows_apart {w : World} {B B' e e' s s' n n' : Nat} {v v' : Value} {xs xs' : List Value} (h : w.ownsRow B e s v n xs) (h' : w.ownsRow B' e' s' v' n' xs') (hne : e ≠ e') : v.ownBlock = none ∨ v.ownBlock ≠ v'.ownBlock := by
 rcases h.2 with ⟨rfl, _⟩ | ⟨g, cap, cur, rfl, _, hg, _⟩
 · exact .inl rfl
 · refine .inr fun e1 => ?_
   rcases h'.2 with ⟨rfl, _⟩ | ⟨g', cap', cur', rfl, _, hg', _⟩
   · simp [Value.ownBlock] at e1
   · simp [Value.ownBlock] at e1
     subst e1
     rw [hg] at hg'
     simp at hg'
     exact hne hg'.2
theorem le_box {B : Nat} {w : World} {o : Obj} (h : B ≤ w.heap.size) : B ≤ (w.alloc o).heap.size := by rw [World.size_alloc]; omega
def Fresh (B : Nat) (base : Option Addr) : Prop := ∀ a, base = some a → B ≤ a.block
theorem fresh_none (B : Nat) : Fresh B none := fun _ h => by cases h
theorem Lies.set {w : World} {base : Option Addr} {sz n c : Nat} {vs : List Value} (h : Lies w sz base n c vs) {B : Nat} (hf : Fresh B base) {p : Addr} (hp : p.block < B) (u : Value) : Lies (w.setCell p u) sz base n c vs := by
 refine ⟨h.len, h.hdr, ?_⟩
 rcases h.run with h0 | ⟨b, o, e, hr⟩
 · exact .inl h0
 · refine .inr ⟨b, o, e, fun j x hx => ?_⟩
   have hb : B ≤ b := hf _ e
   rw [World.cell?_setCell_other _ _ _ _ (fun e => by have := congrArg Addr.block e; simp at this; omega)]
   exact hr j x hx
theorem verInfo : (Tryz.prog.info? 93).map (fun i => (i.zero, i.size, i.bytes)) = some (some (.agg #[.int .i64 0, .bool false, .bool false, .int .i64 0]), 4, 24) := by kernel_rfl
theorem MapIs.deep {w w' : World} {b n : Nat} {f : ByteArray → Option Value} (h : MapIs w b n f) (hb : Below w.heap.size w w') : MapIs w' b n f := h.below hb h.lt

set_option maxHeartbeats 2000000 in
theorem inTurn_calls (m : Made) (W : List ByteArray) (mm n : Nat) (wb : Option Addr) (wn wc : Nat) (w : World) (hm : MapIs w mm n (verMap m)) (ht : Texts w wb wn wc W) (h5 : W.length ≤ 5) (hsm : SmallT W) :
   Calls Tryz.prog 109 #[.map (some mm), .slice wb wn wc] w fun e w' => ∃ vb vn vc kb kn kc, e = .returned (.tuple #[.slice vb vn vc, .slice kb kn kc]) ∧ Lies w' 4 vb vn vc (verCells (vers m W)) ∧ Texts w' kb kn kc (keysOf (vers m W)) ∧ Fresh w.heap.size vb ∧ Fresh w.heap.size kb ∧ Below w.heap.size w w' := by
 have HN := hid (Texts.count ht)
 have hmx : wn ≤ 5 := by rw [Texts.count ht]; exact h5
 have HM := hid hm
 have HS := hid hsm
 by_cases h0 : wn = 0
 · subst h0
   have hl : W = [] := List.eq_nil_of_length_eq_zero (by have := HN.out; omega)
   subst hl
   clear ht hm hsm h5
   go_enter Tryz.func109, Tryz.ntmps109
   go_wp2
   go_loop [6, 7, 14] (fun v kv i => v = .slice none 0 0 ∧ kv = .slice none 0 0 ∧ i = .int .i64 0) (fun _ _ _ => 0)
   case atStart => exact ⟨rfl, rfl, rfl⟩
   case round =>
     obtain ⟨rfl, rfl, rfl⟩ := hrel
     go_wp2
     go_ret2
     exact ⟨none, 0, 0, none, 0, 0, rfl, Lies.none _ _, Lies.none _ _, fresh_none _, fresh_none _, Below.refl _ _⟩
 rcases ht.run with h | ⟨b, o, rfl, h1⟩
 · exact absurd h h0
 have hbw : b < w.heap.size := h1.lt (by rw [strs_length, ← HN.out]; omega)
 have HC := hid h1
 clear h1 h0 ht hm hsm h5
 go_enter Tryz.func109, Tryz.ntmps109
 go_wp2
 go_loopw [6, 7, 14] (fun v kv i wr => ∃ j r : Nat, j ≤ wn ∧ r ≤ j ∧ i = .int .i64 j ∧ Hid ((vers m (W.take j)).length = r) ∧ wr.ownsRow w.heap.size 93 4 v r (verCells (vers m (W.take j))) ∧ wr.ownsRow w.heap.size 9 1 kv r (strs (keysOf (vers m (W.take j)))) ∧ Below w.heap.size w wr) (fun _ _ i _ => wn - (intOf i).toNat)
 case atStart => exact ⟨0, 0, Nat.zero_le _, Nat.le_refl _, rfl, rfl, World.ownsRow_nil _ _ _ _, World.ownsRow_nil _ _ _ _, Below.refl _ _⟩
 case round =>
   obtain ⟨j, r, hj, hr, rfl, HR, ho1, ho2, hbel⟩ := hrel
   have hsz := hbel.size
   by_cases hlt : j < wn
   · have hjl : j < W.length := by rw [← HN.out]; exact hlt
     have c1 := HC.out.below hbel hbw j _ (strs_at hjl)
     have hi : (j : Int) < (wn : Int) := by omega
     have hbwr : b < wr.heap.size := by omega
     have hz : (W.getD j default).size ≤ maxLen := HS.out _ (by simp [List.getD, hjl])
     have hl := (HM.out.deep hbel).look Tryz.underlying145 (verZero wr) _ hz
     have HV := hid (vers_snoc m (W.take j) (W.getD j default))
     rw [← take_snoc_getD hjl] at HV
     have H1 := hid ho1
     have H2 := hid ho2
     have HB := hid hbel
     clear ho1 ho2 hbel hz
     unfold verMap at hl
     generalize W.getD j default = x at *
     cases h : m x with
     | none =>
       rw [h] at hl HV
       simp only [Option.map_none, Option.getD_none, Option.isSome_none] at hl
       simp only [List.append_nil] at HV
       clear h
       go_wp2
       go_roundw
       case rel => exact ⟨j + 1, r, by omega, by omega, by go_num, (by show _ = _; rw [HV.out]; exact HR.out), by rw [HV.out]; exact H1.out.alloc _, by rw [HV.out]; exact H2.out.alloc _, HB.out.alloc hsz _⟩
       case measure => simp [intOf]; omega
     | some y =>
       rw [h] at hl HV
       simp only [Option.map_some, Option.getD_some, Option.isSome_some] at hl HV
       clear h
       have HL1 : Hid (verCells (vers m (W.take (j + 1))) = verCells (vers m (W.take j)) ++ verCell y) := by
         show _ = _; rw [HV.out, verCells_append]; simp [verCells]
       have HL2 : Hid (strs (keysOf (vers m (W.take (j + 1)))) = strs (keysOf (vers m (W.take j))) ++ [.string x]) := by
         show _ = _; rw [HV.out]; simp [keysOf, strs]
       have HL3 : Hid ((vers m (W.take (j + 1))).length = r + 1) := by
         show _ = _; rw [HV.out]; simp [HR.out]
       obtain ⟨hh, nn, e1, e2⟩ : ∃ (hh : Bool) (nn : Int), verVal y = .agg #[.int .i64 0, .bool true, .bool hh, .int .i64 nn] ∧ verCell y = [.int .i64 0, .bool true, .bool hh, .int .i64 nn] := by
         cases y <;> exact ⟨_, _, rfl, rfl⟩
       rw [e1] at hl
       have HY := hid (verCell_one y)
       rw [e2] at HL1 HY
       clear e1 e2
       have HC1 := hid (lies_one (wr.alloc (.cells #[.int .i64 0, .bool true, .bool hh, .int .i64 nn] 93)) #[.int .i64 0, .bool true, .bool hh, .int .i64 nn] 93 4 rfl)
       rw [World.size_alloc] at HC1
       have HO1 := hid ((H1.out.alloc (.cells #[.int .i64 0, .bool true, .bool hh, .int .i64 nn] 93)).alloc (.cells #[.int .i64 0, .bool true, .bool hh, .int .i64 nn] 93))
       have HO2 := hid ((H2.out.alloc (.cells #[.int .i64 0, .bool true, .bool hh, .int .i64 nn] 93)).alloc (.cells #[.int .i64 0, .bool true, .bool hh, .int .i64 nn] 93))
       have HAP := hid (rows_apart HO2.out HO1.out (by decide))
       have HLT := hid H1.out.lt
       have HLT2 := hid H2.out.lt
       have B1 : Hid ((r + 1) * 24 ≤ 140737488355328) := by show _ ≤ _; omega
       have B2 : Hid ((r + 1) * 16 ≤ 140737488355328) := by show _ ≤ _; omega
       have HSZ := hid hsz
       go_wp2_with (at_builtin; refine wpList_onto _ rfl _ _ 116 93 4 24 _ Tryz.underlying116 verInfo rfl (by decide) (by decide) rfl w.heap.size _ r _ rfl HO1.out _ 1 _ _ rfl HC1.out HY.out B1.out (le_box (le_box HSZ.out)) ?_)
       intro v1 w2 hown1 hg1
       have HK2 := hid ((HO2.out.kept hg1 HAP.out).alloc (.cells #[.string x] 9))
       have HV1 := hid (hown1.alloc (.cells #[.string x] 9))
       have HAP2 := hid (rows_apart HV1.out HK2.out (by decide))
       have HB2 := hid (((HB.out.alloc HSZ.out (.cells #[.int .i64 0, .bool true, .bool hh, .int .i64 nn] 93)).alloc (le_box HSZ.out) (.cells #[.int .i64 0, .bool true, .bool hh, .int .i64 nn] 93)).grown hg1 (le_box (le_box HSZ.out)) (fun y hy => (HLT.out y hy).1))
       have HC2 := hid (lies_one w2 #[.string x] 9 1 rfl)
       clear hown1 hg1
       go_wp2_with (at_builtin; refine wpList_onto _ rfl _ _ 49 9 1 16 _ Tryz.underlying49 strInfo rfl (by decide) (by decide) rfl w.heap.size _ r _ rfl HK2.out _ 1 _ _ rfl HC2.out (strs_one [x]) B2.out (le_box HB2.out.size) ?_)
       intro v3 w3 hown3 hg3
       have HV3 := hid (HV1.out.kept hg3 HAP2.out)
       have HB3 := hid ((HB2.out.alloc HB2.out.size (.cells #[.string x] 9)).grown hg3 (le_box HB2.out.size) (fun y hy => (HLT2.out y hy).1))
       clear hg3
       go_wp2
       go_roundw
       case rel => exact ⟨j + 1, r + 1, by omega, by omega, by go_num, HL3, by rw [HL1.out]; exact HV3.out, by rw [HL2.out]; exact hown3, HB3.out⟩
       case measure => simp [intOf]; omega
   · obtain rfl : j = wn := by omega
     have htk : W.take j = W := List.take_of_length_le (by rw [← HN.out]; omega)
     rw [htk] at ho1 ho2
     obtain ⟨vb, vc, rfl, l1⟩ := Lies.owned ho1
     obtain ⟨kb, kc, rfl, l2⟩ := Lies.owned ho2
     have q1 : Fresh w.heap.size vb := fun a h => (ho1.lt a.block (by rw [h]; rfl)).1
     have q2 : Fresh w.heap.size kb := fun a h => (ho2.lt a.block (by rw [h]; rfl)).1
     go_wp2
     go_ret2
     exact ⟨_, _, _, _, _, _, rfl, l1, l2, q1, q2, hbel⟩
end Go.Proofs.YtnbekpblmkdnlaaGreatDoor
