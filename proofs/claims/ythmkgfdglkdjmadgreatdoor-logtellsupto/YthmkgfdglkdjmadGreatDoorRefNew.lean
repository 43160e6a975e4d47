/-
  Plain mathematics of engines: their chains are such that searches go right, also while a deed is planned or done; and what a deed needs, as the program finds it.
  Plain mathematics of plans: what is wrong with deeds that come, that who comes later changes nothing ahead, and that one of those that wait needs nobody.
  slices.Insert over chains, of one chain, into a row that the call owns: the row with the chain at its place; what else there is stays.
  slices.Insert over chains, of one chain, into a row that the call owns: without room for it, and in whatever case.
  with of the program: chains in which a key's versions are turned by a closure; so Add and Set.
  Add and Set of the program: a version more, and one that is made.
  seenFrom and Clear of the program: chains without what is old.
  Of and Rows of the program: chains of rows, and what keys have ahead of a deed.
  The document's own RightChains, walked.
  The document's own Before and RowsAt, walked.
  The document's own Needs and Ready of an engine, walked.
  The document's own Add, walked.
  Blocks of five cells that hold an engine, and rows that a call owns beside them.
  The document's own New, walked.
-/
import Derived.Test.YthmkgfdglkdjmadGreatDoorEngClear
import Derived.Test.YthmkgfdglkdjmadGreatDoorEngGood
import Derived.Lib.SlicesCompact
import Derived.Test.YthmkgfdglkdjmadGreatDoorRefMath
import Derived.Lib.AppendZerosOnto
import Derived.Lib.Overlaps
import Derived.Laws.IdiomCopy
import Derived.Deep.RegionLaw
import Derived.Stop.Walk2
import Derived.Deep.DeepCutAuto
import Derived.Test.YthmkgfdglkdjmadGreatDoorEngIn
namespace Go.Proofs.YthmkgfdglkdjmadGreatDoor
open Go.RowKit

/-! ### Chains that fit -/
theorem rise_append {a b : List Ver} (ha : Rise a) (hb : Rise b) (h : ∀ x ∈ a, ∀ y ∈ b, x.by_ < y.by_) : Rise (a ++ b) := List.pairwise_append.2 ⟨ha, hb, h⟩
theorem newsV_rise (r0 : List Row) (D : List Deed3) (dn : Nat → Bool) (k : ByteArray) (a : Nat) : ∀ n, Rise (newsV r0 D dn k a n)
  | 0 => List.Pairwise.nil
  | n + 1 => by
    rw [newsV_succ]
    refine rise_append (newsV_rise r0 D dn k a n) ?_ (fun x hx y hy => ?_)
    · split
      · exact List.pairwise_singleton _ _
      · exact List.Pairwise.nil
    · obtain ⟨i, _, h2, rfl, _⟩ := newsV_by hx
      split at hy
      · simp at hy
        rw [hy, verI_by, verI_by]; omega
      · cases hy
theorem isAt_mem {k : ByteArray} : ∀ {l : List Row}, isAt k l = true → ∃ x ∈ l, x.1 = k
  | [], h => by cases h
  | x :: l, h => by
    rw [isAt] at h
    by_cases h1 : less x.1 k = true
    · rw [if_pos h1] at h
      obtain ⟨y, hy, e⟩ := isAt_mem h
      exact ⟨y, by simp [hy], e⟩
    · rw [if_neg h1] at h
      by_cases h2 : less k x.1 = true
      · simp [h2] at h
      · exact ⟨x, by simp, less_tri (by simpa using h1) (by simpa using h2)⟩
theorem Good.key {r0 : List Row} {D : List Deed3} {m : Nat} {dn : Nat → Bool} {b : ByteArray → Int} {e : Eng} (G : Good r0 D m dn b e) {k : ByteArray} (h : vsOf k e.chains ≠ []) : keyB k = true := by
  rw [G.vs k] at h
  by_cases h1 : isAt k (seqR r0 D m) = true
  · obtain ⟨x, hx, rfl⟩ := isAt_mem h1
    exact (seqR_right G.rows G.right m).key x hx
  · have ho : oldV r0 D m b k = [] := by unfold oldV; rw [if_neg h1]
    rw [ho, List.nil_append] at h
    obtain ⟨v, hv⟩ := List.exists_mem_of_ne_nil _ h
    obtain ⟨i, h2, h3, _, hw⟩ := newsV_by hv
    have hi : i < D.length := by have := G.le; omega
    exact wKeys_key (rights_at G.right hi).w (has_iff.1 hw)
theorem Good.rise {r0 : List Row} {D : List Deed3} {m : Nat} {dn : Nat → Bool} {b : ByteArray → Int} {e : Eng} (G : Good r0 D m dn b e) (k : ByteArray) : Rise (vsOf k e.chains) := by
  rw [G.vs k]
  refine rise_append ?_ (newsV_rise _ _ _ _ _ _) (fun x hx y hy => ?_)
  · unfold oldV
    split
    · exact List.pairwise_singleton _ _
    · exact List.Pairwise.nil
  · obtain ⟨i, h2, _, rfl, _⟩ := newsV_by hy
    rw [verI_by]
    unfold oldV at hx
    split at hx
    · simp at hx
      rw [hx]
      have := G.hi k
      show b k < _
      omega
    · cases hx
/-! ### Keys, as the program goes -/
/-! ### What is needed, as the program goes -/
end Go.Proofs.YthmkgfdglkdjmadGreatDoor

namespace Go.Proofs.YthmkgfdglkdjmadGreatDoor
open Go.RowKit

/-! ### Deeds that come -/
/-! ### Who comes later changes nothing ahead -/
/-! ### Who waits -/
/-! ### What a deed sees is right -/
end Go.Proofs.YthmkgfdglkdjmadGreatDoor

namespace Go.Proofs.YthmkgfdglkdjmadGreatDoor
open Go.RowKit

/-! ### The row with one more in its midst -/
theorem flat_drop {α : Type} {f : α → List Value} {k : Nat} (hk : ∀ x, (f x).length = k) : ∀ (l : List α) (i : Nat), flat f (l.drop i) = (flat f l).drop (i * k)
  | [], i => by simp [flat]
  | x :: l, 0 => by simp
  | x :: l, i + 1 => by
    have e : (i + 1) * k = (f x).length + i * k := by rw [hk, Nat.add_mul, Nat.one_mul, Nat.add_comm]
    rw [List.drop_succ_cons, flat_cons, flat_drop hk l i, e, List.drop_length_add_append]
end Go.Proofs.YthmkgfdglkdjmadGreatDoor

namespace Go.Proofs.YthmkgfdglkdjmadGreatDoor
open Go.RowKit

end Go.Proofs.YthmkgfdglkdjmadGreatDoor

namespace Go.Proofs.YthmkgfdglkdjmadGreatDoor
open Go.RowKit

/-- How chains are told that lie in memory of their own. -/
def ChainsToldK (w w' : World) (L : List Chn) (e : Ending) : Prop := ∃ (base : Option Addr) (n c : Nat), e = .returned (.slice base n c) ∧ ChK w' base n c L ∧ Below w.heap.size w w'
/-- How chains are told. -/
def ChainsTold (w w' : World) (L : List Chn) (e : Ending) : Prop := ∃ (base : Option Addr) (n c : Nat), e = .returned (.slice base n c) ∧ ChainsIn w' base n c L ∧ Below w.heap.size w w'

theorem ChainsToldK.told {w w' : World} {L : List Chn} {e : Ending} (h : ChainsToldK w w' L e) : ChainsTold w w' L e := by
  obtain ⟨b, n, c, h1, h2, h3⟩ := h
  exact ⟨b, n, c, h1, h2.chains, h3⟩

end Go.Proofs.YthmkgfdglkdjmadGreatDoor

namespace Go.Proofs.YthmkgfdglkdjmadGreatDoor
open Go.RowKit

end Go.Proofs.YthmkgfdglkdjmadGreatDoor

namespace Go.Proofs.YthmkgfdglkdjmadGreatDoor
open Go.RowKit

theorem Vers.drop {w : World} {b o n c m : Nat} {l : List Ver} (h : Vers w (some ⟨b, o, none⟩) n c l) (hm : m ≤ n) : Vers w (some ⟨b, o + m * 4, none⟩) (n - m) (c - m) (l.drop m) := by
  have hn := Vers.count h
  have hlc := h.hdr.le
  have hmx := h.hdr.max
  refine ⟨by rw [flat_length verC_length, List.length_drop, hn], ⟨by omega, by omega, fun h => by cases h⟩, ?_⟩
  rcases h.run with h0 | ⟨b', o', e, hr⟩
  · exact .inl (by omega)
  · cases e
    refine .inr ⟨b, o + m * 4, rfl, fun j u hu => ?_⟩
    rw [flat_drop verC_length, List.getElem?_drop] at hu
    rw [Nat.add_assoc]
    exact hr _ u hu
end Go.Proofs.YthmkgfdglkdjmadGreatDoor

namespace Go.Proofs.YthmkgfdglkdjmadGreatDoor
open Go.RowKit

end Go.Proofs.YthmkgfdglkdjmadGreatDoor

namespace Go.Proofs.YthmkgfdglkdjmadGreatDoor
open Go.RowKit

end Go.Proofs.YthmkgfdglkdjmadGreatDoor

namespace Go.Proofs.YthmkgfdglkdjmadGreatDoor
open Go.RowKit

/-- How the document's Before stands: what it has found so far, and its answer's place. -/
structure BefIs (w wr : World) (y : Int) (m h : Bool) (x : Int) : Prop where
  out : Four wr (w.heap.size + 1) y m h x
  ofr : Free4 wr (w.heap.size + 1)
  res : Four wr w.heap.size 0 false false 0
  rfr : Free4 wr w.heap.size
  bel : Below w.heap.size w wr
theorem BefIs.deep {w wr w' : World} {y : Int} {m h : Bool} {x : Int} (k : BefIs w wr y m h x) (hb : Below wr.heap.size wr w') : BefIs w w' y m h x :=
  ⟨k.out.below hb, k.ofr.below hb k.out.lt, k.res.below hb, k.rfr.below hb k.res.lt, below_deep k.bel hb⟩
theorem Free4.set {w : World} {b : Nat} (h : Free4 w b) (p : Addr) (u : Value) : Free4 (w.setCell p u) b :=
  ⟨by rw [World.frozen?_setCell]; exact h.f0, by rw [World.frozen?_setCell]; exact h.f1, by rw [World.frozen?_setCell]; exact h.f2, by rw [World.frozen?_setCell]; exact h.f3⟩
theorem Four.far {w : World} {b : Nat} {y : Int} {m h : Bool} {x : Int} (k : Four w b y m h x) {p : Addr} (hp : p.block ≠ b) (u : Value) : Four (w.setCell p u) b y m h x := by
  have e : ∀ j, (w.setCell p u).cell? ⟨b, j, none⟩ = w.cell? ⟨b, j, none⟩ := fun j => World.cell?_setCell_other _ _ _ _ (fun e => hp (by rw [e]))
  exact ⟨by rw [e]; exact k.c0, by rw [e]; exact k.c1, by rw [e]; exact k.c2, by rw [e]; exact k.c3⟩
/-- Another one is found. -/
theorem BefIs.put {w wr : World} {y : Int} {m h : Bool} {x : Int} (k : BefIs w wr y m h x) (y' : Int) (m' h' : Bool) (x' : Int) :
    BefIs w ((((wr.setCell ⟨w.heap.size + 1, 0, none⟩ (.int .i64 y')).setCell ⟨w.heap.size + 1, 1, none⟩ (.bool m')).setCell ⟨w.heap.size + 1, 2, none⟩ (.bool h')).setCell ⟨w.heap.size + 1, 3, none⟩ (.int .i64 x')) y' m' h' x' := by
  refine ⟨k.out.put _ _ _ _, (((k.ofr.set _ _).set _ _).set _ _).set _ _, ?_, (((k.rfr.set _ _).set _ _).set _ _).set _ _, four_below k.bel (by omega)⟩
  exact (((k.res.far (p := ⟨w.heap.size + 1, 0, none⟩) (by simp) _).far (p := ⟨w.heap.size + 1, 1, none⟩) (by simp) _).far (p := ⟨w.heap.size + 1, 2, none⟩) (by simp) _).far (p := ⟨w.heap.size + 1, 3, none⟩) (by simp) _
end Go.Proofs.YthmkgfdglkdjmadGreatDoor

namespace Go.Proofs.YthmkgfdglkdjmadGreatDoor
open Go.RowKit

end Go.Proofs.YthmkgfdglkdjmadGreatDoor

namespace Go.Proofs.YthmkgfdglkdjmadGreatDoor
open Go.RowKit

end Go.Proofs.YthmkgfdglkdjmadGreatDoor

namespace Go.Proofs.YthmkgfdglkdjmadGreatDoor
open Go.RowKit

def put5 (w : World) (b : Nat) (v0 v1 v2 v3 v4 : Value) : World :=
  ((((w.setCell ⟨b, 0, none⟩ v0).setCell ⟨b, 1, none⟩ v1).setCell ⟨b, 2, none⟩ v2).setCell ⟨b, 3, none⟩ v3).setCell ⟨b, 4, none⟩ v4
theorem put5_off (w : World) (b : Nat) (v0 v1 v2 v3 v4 : Value) : Off b w (put5 w b v0 v1 v2 v3 v4) :=
  ((((Off.set _ _ _ _).trans (Off.set _ _ _ _)).trans (Off.set _ _ _ _)).trans (Off.set _ _ _ _)).trans (Off.set _ _ _ _)
theorem put5_box {w : World} {b : Nat} {t : TypeId} {u0 u1 u2 u3 u4 : Value} (h : Box w b #[u0, u1, u2, u3, u4] t) (v0 v1 v2 v3 v4 : Value) : Box (put5 w b v0 v1 v2 v3 v4) b #[v0, v1, v2, v3, v4] t := by
  have := ((((h.set 0 v0).set 1 v1).set 2 v2).set 3 v3).set 4 v4
  exact this
/-- A row that a call owns is apart from what is written in another block. -/
theorem owns_off {w w' : World} {b B e s n : Nat} {v : Value} {xs : List Value} (h : w.ownsRow B e s v n xs) (ho : Off b w w') (hne : some b ≠ v.ownBlock) : w'.ownsRow B e s v n xs := by
  refine ⟨h.1, h.2.imp id ?_⟩
  rintro ⟨g, cap, cur, rfl, hb, hg, rest⟩
  refine ⟨g, cap, cur, rfl, hb, ?_, rest⟩
  exact (ho.block g (Array.getElem?_eq_some_iff.1 hg).1 (fun e => hne (by rw [← e]; rfl))).trans hg
theorem own_ne {w : World} {b B e s n : Nat} {v : Value} {xs : List Value} {cs : Array Value} {t : TypeId} (h : w.ownsRow B e s v n xs) (hb : Box w b cs t) (hne : t ≠ e) : some b ≠ v.ownBlock :=
  own_apart h (.inr ⟨cs, _, hb⟩) hne
/-- A row of chains that a call owns, their versions in versions' own memory. -/
def OwnCh (w : World) (B : Nat) (v : Value) (L : List Chn) : Prop := ∃ S, w.ownsRow B 54 2 v L.length (flat slotC S) ∧ SlotsAre w 0 56 S L
theorem OwnCh.nil (w : World) (B : Nat) : OwnCh w B (.slice none 0 0) [] := ⟨[], World.ownsRow_nil _ _ _ _, SlotsAre.nil _ _ _⟩
theorem OwnCh.below {w w' : World} {B : Nat} {v : Value} {L : List Chn} (h : OwnCh w B v L) (hb : Below w.heap.size w w') : OwnCh w' B v L := by
  obtain ⟨S, h1, h2⟩ := h
  exact ⟨S, owns_keep h1 hb, h2.below hb⟩
theorem SlotsAre.off0 {w w' : World} {b : Nat} {cs : Array Value} {t : TypeId} {S : List Slot} {L : List Chn} (h : SlotsAre w 0 56 S L) (hb : Box w b cs t) (h2 : 56 ≠ t) (ho : Off b w w') : SlotsAre w' 0 56 S L := by
  refine ⟨h.1, fun i hi => ?_⟩
  obtain ⟨e1, e2, e3, e4⟩ := h.2 i hi
  rcases e3 with e3 | e3 | e3
  · exact ⟨e1, Lies.off e2 ho (.inl e3), .inl e3, e4⟩
  · refine ⟨e1, Lies.off e2 ho (.inr fun a ha => absurd (e3 a ha) (Nat.not_lt_zero _)), .inr (.inl e3), e4⟩
  · exact ⟨e1, Lies.off e2 ho (.inr (kind_ne hb e3 h2)), .inr (.inr (e3.off ho (kind_ne hb e3 h2))), e4⟩
theorem OwnCh.off {w w' : World} {b B : Nat} {cs : Array Value} {t : TypeId} {v : Value} {L : List Chn} (h : OwnCh w B v L) (hb : Box w b cs t) (h1 : t ≠ 54) (h2 : 56 ≠ t) (ho : Off b w w') : OwnCh w' B v L := by
  obtain ⟨S, k1, k2⟩ := h
  exact ⟨S, owns_off k1 ho (own_ne k1 hb h1), k2.off0 hb h2 ho⟩
theorem OwnCh.ne {w : World} {b B : Nat} {cs : Array Value} {t : TypeId} {v : Value} {L : List Chn} (h : OwnCh w B v L) (hb : Box w b cs t) (h1 : t ≠ 54) : some b ≠ v.ownBlock := by
  obtain ⟨S, k1, _⟩ := h
  exact own_ne k1 hb h1
/-! ### A field of the call's own engine is made anew -/
end Go.Proofs.YthmkgfdglkdjmadGreatDoor

namespace Go.Proofs.YthmkgfdglkdjmadGreatDoor
open Go.RowKit

end Go.Proofs.YthmkgfdglkdjmadGreatDoor
