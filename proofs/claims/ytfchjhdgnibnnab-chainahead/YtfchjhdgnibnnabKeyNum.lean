/-
  Plain mathematics: there are not so many keys, so right rows are not too many.
-/
import Derived.Test.YtfchjhdgnibnnabMath
namespace Go.Proofs.Ytfchjhdgnibnnab
open Go.RowKit

/-- A key's number, in n digits of 27. -/
def rank : Nat → List UInt8 → Nat
  | 0, _ => 0
  | _ + 1, [] => 0
  | n + 1, c :: l => (c.toNat - 96) * 27 ^ n + rank n l

theorem okc_bounds {c : UInt8} (h : okc c = true) : 97 ≤ c.toNat ∧ c.toNat ≤ 122 := by
  simp [okc] at h; omega
theorem rank_lt : ∀ (n : Nat) (l : List UInt8), l.all okc = true → rank n l < 27 ^ n
  | 0, _, _ => by simp [rank]
  | n + 1, [], _ => by simp only [rank]; exact Nat.pow_pos (by decide)
  | n + 1, c :: l, h => by
    simp only [List.all_cons, Bool.and_eq_true] at h
    have h1 := okc_bounds h.1
    have h2 := rank_lt n l h.2
    have h3 : (c.toNat - 96) * 27 ^ n ≤ 26 * 27 ^ n := Nat.mul_le_mul_right _ (by omega)
    simp only [rank, Nat.pow_succ]
    omega
theorem rank_mono : ∀ (n : Nat) (a b : List UInt8), a.all okc = true → b.all okc = true → b.length ≤ n → a < b → rank n a < rank n b
  | n, a, [], _, _, _, h => absurd h (List.not_lt_nil a)
  | 0, _, c :: b, _, _, hl, _ => by simp at hl
  | n + 1, [], c :: b, _, hb, _, _ => by
    simp only [List.all_cons, Bool.and_eq_true] at hb
    have h1 := okc_bounds hb.1
    have h3 : 1 * 27 ^ n ≤ (c.toNat - 96) * 27 ^ n := Nat.mul_le_mul_right _ (by omega)
    have h4 : 0 < 27 ^ n := Nat.pow_pos (by decide)
    simp only [rank]
    omega
  | n + 1, d :: a, c :: b, ha, hb, hl, h => by
    simp only [List.all_cons, Bool.and_eq_true] at ha hb
    have h1 := okc_bounds hb.1
    have h2 := okc_bounds ha.1
    rcases List.cons_lt_cons_iff.1 h with h' | ⟨rfl, h'⟩
    · have hlt : d.toNat < c.toNat := UInt8.lt_iff_toNat_lt.1 h'
      have h3 : (d.toNat - 96 + 1) * 27 ^ n ≤ (c.toNat - 96) * 27 ^ n := Nat.mul_le_mul_right _ (by omega)
      have h4 := rank_lt n a ha.2
      rw [Nat.add_mul] at h3
      simp only [rank]
      omega
    · have := rank_mono n a b ha.2 hb.2 (by simpa using hl) h'
      simp only [rank]
      omega
theorem keyB_list {s : ByteArray} (h : keyB s = true) : s.toList.all okc = true ∧ s.toList.length ≤ 6 := by
  unfold keyB at h
  simp only [Bool.and_eq_true, decide_eq_true_eq] at h
  rw [ByteArray.toList_eq]
  exact ⟨h.2, by have := h.1.2; show s.data.toList.length ≤ 6; rw [Array.length_toList]; exact this⟩
theorem rank_key {s : ByteArray} (h : keyB s = true) : rank 6 s.toList < 387420489 := rank_lt 6 _ (keyB_list h).1
theorem rank_less {a b : ByteArray} (ha : keyB a = true) (hb : keyB b = true) (h : less a b = true) : rank 6 a.toList < rank 6 b.toList := by
  rw [less_def] at h
  exact rank_mono 6 _ _ (keyB_list ha).1 (keyB_list hb).1 (keyB_list hb).2 (of_decide_eq_true h)
theorem few_above : ∀ (l : List Row) (lo : Nat), lo ≤ 387420489 → Srt l → (∀ x ∈ l, keyB x.1 = true) → (∀ x ∈ l, lo ≤ rank 6 x.1.toList) → lo + l.length ≤ 387420489
  | [], lo, h, _, _, _ => by simpa using h
  | x :: l, lo, h, hs, hk, hr => by
    obtain ⟨h1, h2⟩ := srt_cons.1 hs
    have hx := hk x (by simp)
    have hlt := rank_key hx
    have := few_above l (rank 6 x.1.toList + 1) (by omega) h2 (fun y hy => hk y (by simp [hy])) (fun y hy => rank_less hx (hk y (by simp [hy])) (h1 y hy))
    have := hr x (by simp)
    simp only [List.length_cons]
    omega
/-- Right rows are not too many. -/
theorem right_few {l : List Row} (h : Right l) : l.length ≤ 387420489 := by
  have := few_above l 0 (by omega) h.srt h.key (fun _ _ => Nat.zero_le _)
  omega
end Go.Proofs.Ytfchjhdgnibnnab
