/-
  Plain mathematics of chains: what a version more, and one that is made, leave as it was.
  Plain mathematics of engines: deeds that are planned, and done in whatever order, leave what they leave one by one.
-/
import Derived.Test.YtdnafpenljdinadChainFind
import Derived.Test.YtdnafpenljdinadKeyNum
import Derived.Test.YtdnafpenljdinadOpenDeeds
namespace Go.Proofs.Ytdnafpenljdinad
open Go.RowKit

theorem addC_srt {k : ByteArray} {by_ : Int} : ∀ {L : List Chn}, SrtC L → SrtC (addC k by_ L) ∧ ∀ x ∈ addC k by_ L, x.1 = k ∨ ∃ c ∈ L, x.1 = c.1
  | [], _ => ⟨List.pairwise_singleton _ _, fun x hx => by simp [addC] at hx; exact .inl (by rw [hx])⟩
  | c :: L, h => by
    obtain ⟨h1, h2⟩ := srtC_cons.1 h
    obtain ⟨i1, i2⟩ := addC_srt (k := k) (by_ := by_) h2
    rw [addC]
    by_cases e1 : less k c.1 = true
    · rw [if_pos e1]
      refine ⟨srtC_cons.2 ⟨fun y hy => ?_, h⟩, fun x hx => ?_⟩
      · rcases List.mem_cons.1 hy with rfl | hy
        · exact e1
        · exact less_trans e1 (h1 y hy)
      · rcases List.mem_cons.1 hx with rfl | hx
        · exact .inl rfl
        · exact .inr ⟨x, hx, rfl⟩
    · rw [if_neg e1]
      by_cases e2 : c.1 = k
      · rw [if_pos e2]
        refine ⟨srtC_cons.2 ⟨fun y hy => by rw [← e2]; exact h1 y hy, h2⟩, fun x hx => ?_⟩
        rcases List.mem_cons.1 hx with rfl | hx
        · exact .inl rfl
        · exact .inr ⟨x, by simp [hx], rfl⟩
      · rw [if_neg e2]
        refine ⟨srtC_cons.2 ⟨fun y hy => ?_, i1⟩, fun x hx => ?_⟩
        · rcases i2 y hy with e | ⟨c', hc', e⟩
          · rw [e]
            rcases less_cases c.1 k with g | g | g
            · exact g
            · exact absurd g e2
            · exact absurd g e1
          · rw [e]; exact h1 c' hc'
        · rcases List.mem_cons.1 hx with rfl | hx
          · exact .inr ⟨x, by simp, rfl⟩
          · rcases i2 x hx with e | ⟨c', hc', e⟩
            · exact .inl e
            · exact .inr ⟨c', by simp [hc'], e⟩
theorem addC_some {k : ByteArray} {by_ : Int} : ∀ {L : List Chn}, (∀ c ∈ L, c.2 ≠ []) → ∀ c ∈ addC k by_ L, c.2 ≠ []
  | [], _, c, hc => by simp [addC] at hc; rw [hc]; simp
  | x :: L, h, c, hc => by
    rw [addC] at hc
    split at hc
    · rcases List.mem_cons.1 hc with rfl | hc
      · simp
      · exact h c hc
    · split at hc
      · rcases List.mem_cons.1 hc with rfl | hc
        · simp
        · exact h c (by simp [hc])
      · rcases List.mem_cons.1 hc with rfl | hc
        · exact h c (by simp)
        · exact addC_some (fun y hy => h y (by simp [hy])) c hc
theorem setC_srt {k : ByteArray} {v : Ver} {L : List Chn} (h : SrtC L) : SrtC (setC k v L) := by
  unfold SrtC setC
  rw [List.pairwise_map]
  refine h.imp fun {a b} hab => ?_
  have e : ∀ c : Chn, (if c.1 = k then (c.1, setV v c.2) else c).1 = c.1 := fun c => by split <;> rfl
  rw [e a, e b]; exact hab
theorem setC_some {k : ByteArray} {v : Ver} {L : List Chn} (h : ∀ c ∈ L, c.2 ≠ []) : ∀ c ∈ setC k v L, c.2 ≠ [] := fun c hc => by
  obtain ⟨x, hx, rfl⟩ := List.mem_map.1 hc
  split
  · simpa [setV] using h x hx
  · exact h x hx
theorem addC_mem {k : ByteArray} {by_ : Int} {x : Chn} : ∀ {L : List Chn}, SrtC L → x ∈ addC k by_ L → x ∈ L ∨ x = (k, vsOf k L ++ [newV by_])
  | [], _, h => by simp [addC] at h; rw [h]; exact .inr rfl
  | c :: L, hs, h => by
    obtain ⟨h1, h2⟩ := srtC_cons.1 hs
    rw [addC] at h
    by_cases e1 : less k c.1 = true
    · rw [if_pos e1] at h
      rcases List.mem_cons.1 h with rfl | h
      · right
        rw [vsOf_front (fun y hy => by
          rcases List.mem_cons.1 hy with rfl | hy
          · exact e1
          · exact less_trans e1 (h1 y hy))]
        rfl
      · exact .inl h
    · rw [if_neg e1] at h
      by_cases e2 : c.1 = k
      · rw [if_pos e2] at h
        rcases List.mem_cons.1 h with rfl | h
        · right; rw [vsOf, if_pos e2]
        · exact .inl (by simp [h])
      · rw [if_neg e2] at h
        rw [vsOf, if_neg e2]
        rcases List.mem_cons.1 h with rfl | h
        · exact .inl (by simp)
        · rcases addC_mem h2 h with h | h
          · exact .inl (by simp [h])
          · exact .inr h
theorem setC_mem {k : ByteArray} {v : Ver} {x : Chn} {L : List Chn} (h : x ∈ setC k v L) : ∃ c ∈ L, x.1 = c.1 ∧ (x.2 = c.2 ∨ x.2 = setV v c.2) := by
  obtain ⟨c, hc, rfl⟩ := List.mem_map.1 h
  refine ⟨c, hc, ?_⟩
  split
  · exact ⟨rfl, .inr rfl⟩
  · exact ⟨rfl, .inl rfl⟩
theorem setV_by (v : Ver) (l : List Ver) : (setV v l).map Ver.by_ = l.map Ver.by_ := by
  simp only [setV, List.map_map]
  apply List.map_congr_left
  intro u _
  simp only [Function.comp]
  split
  · rename_i h; exact h.symm
  · rfl
theorem rise_by {a b : List Ver} (h : a.map Ver.by_ = b.map Ver.by_) (hb : Rise b) : Rise a := by
  have h1 : (b.map Ver.by_).Pairwise (· < ·) := List.pairwise_map.2 hb
  rw [← h] at h1
  exact List.pairwise_map.1 h1
theorem setV_rise {v : Ver} {l : List Ver} (h : Rise l) : Rise (setV v l) := rise_by (setV_by v l) h
theorem setV_len (v : Ver) (l : List Ver) : (setV v l).length = l.length := by simp [setV]
theorem rise_snoc {l : List Ver} {v : Ver} (h : Rise l) (hv : ∀ u ∈ l, u.by_ < v.by_) : Rise (l ++ [v]) := by
  unfold Rise
  rw [List.pairwise_append]
  exact ⟨h, List.pairwise_singleton _ _, fun a ha b hb => by simp at hb; rw [hb]; exact hv a ha⟩
end Go.Proofs.Ytdnafpenljdinad

namespace Go.Proofs.Ytdnafpenljdinad
open Go.RowKit

structure Eng where
  chains : List Chn
  deeds : List Deed3
  state : List Int
  ends : List End3
  base : Int
def noE : End3 := (false, zeroR)
def newE (r : List Row) : Eng := ⟨ofRows r, [], [], [], 0⟩
def addW (by_ : Int) (W : List ByteArray) (L : List Chn) : List Chn := W.foldl (fun L k => addC k by_ L) L
def addD (e : Eng) (d : Deed3) : Eng := ⟨addW (e.base + e.deeds.length) d.2.1 e.chains, e.deeds ++ [d], e.state ++ [0], e.ends ++ [noE], e.base⟩
def addAll (e : Eng) (l : List Deed3) : Eng := l.foldl addD e
/-- The keys of a deed, each once. -/
def addKey (out : List ByteArray) (k : ByteArray) : List ByteArray := if has out k = true then out else out ++ [k]
def keysD (d : Deed3) : List ByteArray := (d.1 ++ d.2.1).foldl addKey []
def needE (e : Eng) (p k : Nat) : Bool := (keysD (e.deeds.getD p default)).any (fun x => !(before e.chains x (e.base + p)).made && decide ((before e.chains x (e.base + p)).by_ = e.base + k))
def needsE (e : Eng) (p : Nat) : List Nat := (List.range p).filter (needE e p)
def readyE (e : Eng) : List Nat := (List.range e.deeds.length).filter (fun p => decide (e.state.getD p 0 = 0) && (needsE e p).isEmpty)
def seesK (L : List Chn) (at_ : Int) (r : List Row) (k : ByteArray) : List Row := if (before L k at_).has_ = true then ins k (before L k at_).n r else r
def seesE (e : Eng) (p : Nat) : List Row := (keysD (e.deeds.getD p default)).foldl (seesK e.chains (e.base + p)) []
def setW (by_ : Int) (r : List Row) (W : List ByteArray) (L : List Chn) : List Chn := W.foldl (fun L k => setC k (by_, true, isAt k r, num k r) L) L
def goE (e : Eng) (p : Nat) : Eng :=
  ⟨setW (e.base + p) (doD (seesE e p) (e.deeds.getD p default)) (e.deeds.getD p default).2.1 e.chains, e.deeds, e.state.set p 1, e.ends.set p (endD (seesE e p) (e.deeds.getD p default)), e.base⟩

/-! ### Keys of a deed -/
theorem addKey_mem {out : List ByteArray} {k x : ByteArray} : x ∈ addKey out k ↔ x ∈ out ∨ x = k := by
  unfold addKey
  split
  · rename_i h
    constructor
    · exact .inl
    · rintro (h1 | rfl)
      · exact h1
      · exact has_iff.1 h
  · simp
theorem keys_mem : ∀ (l out : List ByteArray) (x : ByteArray), x ∈ l.foldl addKey out ↔ x ∈ out ∨ x ∈ l
  | [], out, x => by simp
  | k :: l, out, x => by
    rw [List.foldl_cons, keys_mem l, addKey_mem, List.mem_cons]
    constructor
    · rintro ((h | h) | h)
      · exact .inl h
      · exact .inr (.inl h)
      · exact .inr (.inr h)
    · rintro (h | h | h)
      · exact .inl (.inl h)
      · exact .inl (.inr h)
      · exact .inr h
theorem keysD_mem {d : Deed3} {x : ByteArray} : x ∈ keysD d ↔ x ∈ d.1 ∨ x ∈ d.2.1 := by
  unfold keysD
  rw [keys_mem]
  simp
theorem keys_nodup : ∀ (l out : List ByteArray), out.Nodup → (l.foldl addKey out).Nodup
  | [], _, h => h
  | k :: l, out, h => by
    rw [List.foldl_cons]
    refine keys_nodup l _ ?_
    unfold addKey
    split
    · exact h
    · rename_i hk
      rw [List.nodup_append]
      refine ⟨h, by simp, fun a ha b hb e => ?_⟩
      simp at hb
      subst hb
      subst e
      exact hk (has_iff.2 ha)
theorem keysD_nodup (d : Deed3) : (keysD d).Nodup := keys_nodup _ _ List.nodup_nil

/-! ### Versions of several keys at once -/
theorem addW_srt {by_ : Int} : ∀ (W : List ByteArray) {L : List Chn}, SrtC L → SrtC (addW by_ W L)
  | [], _, h => h
  | _ :: W, _, h => addW_srt W (addC_srt h).1
theorem addW_some {by_ : Int} : ∀ (W : List ByteArray) {L : List Chn}, (∀ c ∈ L, c.2 ≠ []) → ∀ c ∈ addW by_ W L, c.2 ≠ []
  | [], _, h => h
  | _ :: W, _, h => addW_some W (addC_some h)
theorem vsOf_addW {by_ : Int} {k : ByteArray} : ∀ (W : List ByteArray) {L : List Chn}, W.Nodup → SrtC L → vsOf k (addW by_ W L) = if has W k = true then vsOf k L ++ [newV by_] else vsOf k L
  | [], _, _, _ => by simp [addW, has]
  | x :: W, L, hn, hs => by
    rw [List.nodup_cons] at hn
    show vsOf k (addW by_ W (addC x by_ L)) = _
    rw [vsOf_addW W hn.2 (addC_srt hs).1]
    by_cases e : k = x
    · subst e
      rw [if_neg (fun h => hn.1 (has_iff.1 h)), if_pos (has_iff.2 (by simp)), vsOf_add k by_ L hs]
    · rw [vsOf_add_other by_ e L, has_cons, decide_eq_false (Ne.symm e), Bool.false_or]
theorem setW_srt {by_ : Int} {r : List Row} : ∀ (W : List ByteArray) {L : List Chn}, SrtC L → SrtC (setW by_ r W L)
  | [], _, h => h
  | _ :: W, _, h => setW_srt W (setC_srt h)
theorem setW_some {by_ : Int} {r : List Row} : ∀ (W : List ByteArray) {L : List Chn}, (∀ c ∈ L, c.2 ≠ []) → ∀ c ∈ setW by_ r W L, c.2 ≠ []
  | [], _, h => h
  | _ :: W, _, h => setW_some W (setC_some h)
theorem vsOf_setW {by_ : Int} {r : List Row} {k : ByteArray} : ∀ (W : List ByteArray) {L : List Chn}, W.Nodup → vsOf k (setW by_ r W L) = if has W k = true then setV (by_, true, isAt k r, num k r) (vsOf k L) else vsOf k L
  | [], _, _ => by simp [setW, has]
  | x :: W, L, hn => by
    rw [List.nodup_cons] at hn
    show vsOf k (setW by_ r W (setC x (by_, true, isAt x r, num x r) L)) = _
    rw [vsOf_setW W hn.2]
    by_cases e : k = x
    · subst e
      rw [if_neg (fun h => hn.1 (has_iff.1 h)), if_pos (has_iff.2 (by simp)), vsOf_set]
    · rw [vsOf_set_other _ e L, has_cons, decide_eq_false (Ne.symm e), Bool.false_or]
/-- Chains that rise are told by their versions. -/
theorem chains_ext : ∀ {a b : List Chn}, SrtC a → SrtC b → (∀ c ∈ a, c.2 ≠ []) → (∀ c ∈ b, c.2 ≠ []) → (∀ k, vsOf k a = vsOf k b) → a = b
  | [], [], _, _, _, _, _ => rfl
  | [], y :: b, _, _, _, hb, h => by
    have := h y.1
    simp [vsOf] at this
    exact absurd this (hb y (by simp))
  | x :: a, [], _, _, ha, _, h => by
    have := h x.1
    simp [vsOf] at this
    exact absurd this (ha x (by simp))
  | x :: a, y :: b, sa, sb, ha, hb, h => by
    obtain ⟨h1, sa'⟩ := srtC_cons.1 sa
    obtain ⟨h2, sb'⟩ := srtC_cons.1 sb
    have e1 : x.1 = y.1 := by
      rcases less_cases x.1 y.1 with g | g | g
      · have := h x.1
        have h0 : vsOf x.1 (y :: b) = [] := vsOf_front (fun z hz => by
          rcases List.mem_cons.1 hz with rfl | hz
          · exact g
          · exact less_trans g (h2 z hz))
        rw [h0] at this
        simp [vsOf] at this
        exact absurd this (ha x (by simp))
      · exact g
      · have := h y.1
        have h0 : vsOf y.1 (x :: a) = [] := vsOf_front (fun z hz => by
          rcases List.mem_cons.1 hz with rfl | hz
          · exact g
          · exact less_trans g (h1 z hz))
        rw [h0] at this
        simp [vsOf] at this
        exact absurd this (hb y (by simp))
    have e2 : x.2 = y.2 := by
      have := h x.1
      simpa [vsOf, e1] using this
    have exy : x = y := Prod.ext e1 e2
    subst exy
    have step : ∀ k, vsOf k a = vsOf k b := fun k => by
      have := h k
      rw [vsOf, vsOf] at this
      by_cases e : x.1 = k
      · rw [vsOf_front (k := k) (L := a) (fun z hz => by rw [← e]; exact h1 z hz), vsOf_front (k := k) (L := b) (fun z hz => by rw [← e]; exact h2 z hz)]
      · rwa [if_neg e, if_neg e] at this
    rw [chains_ext sa' sb' (fun c hc => ha c (by simp [hc])) (fun c hc => hb c (by simp [hc])) step]
end Go.Proofs.Ytdnafpenljdinad
