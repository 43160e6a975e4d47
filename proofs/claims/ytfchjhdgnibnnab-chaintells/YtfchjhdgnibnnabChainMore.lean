/-
  Plain mathematics of chains: what a version more, and one that is made, leave as it was.
-/
import Derived.Test.YtfchjhdgnibnnabChainFind
namespace Go.Proofs.Ytfchjhdgnibnnab
open Go.RowKit

theorem addC_srt {k : ByteArray} {by_ : Int} : ∀ {L : List Chn}, SrtC L → SrtC (addC k by_ L) ∧ ∀ x ∈ addC k by_ L, x.1 = k ∨ ∃ c ∈ L, x.1 = c.1
  | [], _ => ⟨List.pairwise_singleton _ _, fun x hx => by simp [addC] at hx; exact .inl (by rw [hx])⟩
  | c :: L, h => by
    obtain ⟨h1, h2⟩ := srtC_cons.1 h
    obtain ⟨i1, i2⟩ := addC_srt (k := k) (by_ := by_) h2
    rw [addC]
    by_cases e1 : less k c.1 = true
    · rw [if_pos e1]
      refine ⟨srtC_cons.2 ⟨fun y hy => ?_, h⟩, fun x hx => ?_⟩
      · rcases List.mem_cons.1 hy with rfl | hy
        · exact e1
        · exact less_trans e1 (h1 y hy)
      · rcases List.mem_cons.1 hx with rfl | hx
        · exact .inl rfl
        · exact .inr ⟨x, hx, rfl⟩
    · rw [if_neg e1]
      by_cases e2 : c.1 = k
      · rw [if_pos e2]
        refine ⟨srtC_cons.2 ⟨fun y hy => by rw [← e2]; exact h1 y hy, h2⟩, fun x hx => ?_⟩
        rcases List.mem_cons.1 hx with rfl | hx
        · exact .inl rfl
        · exact .inr ⟨x, by simp [hx], rfl⟩
      · rw [if_neg e2]
        refine ⟨srtC_cons.2 ⟨fun y hy => ?_, i1⟩, fun x hx => ?_⟩
        · rcases i2 y hy with e | ⟨c', hc', e⟩
          · rw [e]
            rcases less_cases c.1 k with g | g | g
            · exact g
            · exact absurd g e2
            · exact absurd g e1
          · rw [e]; exact h1 c' hc'
        · rcases List.mem_cons.1 hx with rfl | hx
          · exact .inr ⟨x, by simp, rfl⟩
          · rcases i2 x hx with e | ⟨c', hc', e⟩
            · exact .inl e
            · exact .inr ⟨c', by simp [hc'], e⟩
theorem addC_some {k : ByteArray} {by_ : Int} : ∀ {L : List Chn}, (∀ c ∈ L, c.2 ≠ []) → ∀ c ∈ addC k by_ L, c.2 ≠ []
  | [], _, c, hc => by simp [addC] at hc; rw [hc]; simp
  | x :: L, h, c, hc => by
    rw [addC] at hc
    split at hc
    · rcases List.mem_cons.1 hc with rfl | hc
      · simp
      · exact h c hc
    · split at hc
      · rcases List.mem_cons.1 hc with rfl | hc
        · simp
        · exact h c (by simp [hc])
      · rcases List.mem_cons.1 hc with rfl | hc
        · exact h c (by simp)
        · exact addC_some (fun y hy => h y (by simp [hy])) c hc
theorem setC_srt {k : ByteArray} {v : Ver} {L : List Chn} (h : SrtC L) : SrtC (setC k v L) := by
  unfold SrtC setC
  rw [List.pairwise_map]
  refine h.imp fun {a b} hab => ?_
  have e : ∀ c : Chn, (if c.1 = k then (c.1, setV v c.2) else c).1 = c.1 := fun c => by split <;> rfl
  rw [e a, e b]; exact hab
theorem setC_some {k : ByteArray} {v : Ver} {L : List Chn} (h : ∀ c ∈ L, c.2 ≠ []) : ∀ c ∈ setC k v L, c.2 ≠ [] := fun c hc => by
  obtain ⟨x, hx, rfl⟩ := List.mem_map.1 hc
  split
  · simpa [setV] using h x hx
  · exact h x hx
theorem addC_mem {k : ByteArray} {by_ : Int} {x : Chn} : ∀ {L : List Chn}, SrtC L → x ∈ addC k by_ L → x ∈ L ∨ x = (k, vsOf k L ++ [newV by_])
  | [], _, h => by simp [addC] at h; rw [h]; exact .inr rfl
  | c :: L, hs, h => by
    obtain ⟨h1, h2⟩ := srtC_cons.1 hs
    rw [addC] at h
    by_cases e1 : less k c.1 = true
    · rw [if_pos e1] at h
      rcases List.mem_cons.1 h with rfl | h
      · right
        rw [vsOf_front (fun y hy => by
          rcases List.mem_cons.1 hy with rfl | hy
          · exact e1
          · exact less_trans e1 (h1 y hy))]
        rfl
      · exact .inl h
    · rw [if_neg e1] at h
      by_cases e2 : c.1 = k
      · rw [if_pos e2] at h
        rcases List.mem_cons.1 h with rfl | h
        · right; rw [vsOf, if_pos e2]
        · exact .inl (by simp [h])
      · rw [if_neg e2] at h
        rw [vsOf, if_neg e2]
        rcases List.mem_cons.1 h with rfl | h
        · exact .inl (by simp)
        · rcases addC_mem h2 h with h | h
          · exact .inl (by simp [h])
          · exact .inr h
theorem setC_mem {k : ByteArray} {v : Ver} {x : Chn} {L : List Chn} (h : x ∈ setC k v L) : ∃ c ∈ L, x.1 = c.1 ∧ (x.2 = c.2 ∨ x.2 = setV v c.2) := by
  obtain ⟨c, hc, rfl⟩ := List.mem_map.1 h
  refine ⟨c, hc, ?_⟩
  split
  · exact ⟨rfl, .inr rfl⟩
  · exact ⟨rfl, .inl rfl⟩
theorem setV_by (v : Ver) (l : List Ver) : (setV v l).map Ver.by_ = l.map Ver.by_ := by
  simp only [setV, List.map_map]
  apply List.map_congr_left
  intro u _
  simp only [Function.comp]
  split
  · rename_i h; exact h.symm
  · rfl
theorem rise_by {a b : List Ver} (h : a.map Ver.by_ = b.map Ver.by_) (hb : Rise b) : Rise a := by
  have h1 : (b.map Ver.by_).Pairwise (· < ·) := List.pairwise_map.2 hb
  rw [← h] at h1
  exact List.pairwise_map.1 h1
theorem setV_rise {v : Ver} {l : List Ver} (h : Rise l) : Rise (setV v l) := rise_by (setV_by v l) h
theorem setV_len (v : Ver) (l : List Ver) : (setV v l).length = l.length := by simp [setV]
theorem rise_snoc {l : List Ver} {v : Ver} (h : Rise l) (hv : ∀ u ∈ l, u.by_ < v.by_) : Rise (l ++ [v]) := by
  unfold Rise
  rw [List.pairwise_append]
  exact ⟨h, List.pairwise_singleton _ _, fun a ha b hb => by simp at hb; rw [hb]; exact hv a ha⟩
end Go.Proofs.Ytfchjhdgnibnnab
