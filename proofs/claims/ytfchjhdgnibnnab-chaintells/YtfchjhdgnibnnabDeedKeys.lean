/-
  The program's search among texts, and what it finds wrong with keys.
-/
import Derived.Test.YtfchjhdgnibnnabLies
import Derived.Test.YtfchjhdgnibnnabDeedMath
import Derived.Test.YtfchjhdgnibnnabSeg
namespace Go.Proofs.Ytfchjhdgnibnnab
open Go.RowKit

theorem streq_true {a b : ByteArray} (h : a = b) : (a.toList == b.toList) = true := by subst h; simp
theorem streq_false {a b : ByteArray} (h : a ≠ b) : (a.toList == b.toList) = false := by simpa using fun e => h (toList_inj e)

/-- Where k is first; -1: nowhere. -/
theorem index_calls (l : List ByteArray) (base : Option Addr) (n c : Nat) (k : ByteArray) (w : World) (ha : Texts w base n c l) :
    Calls Try.prog 77 #[.slice base n c, .string k] w fun e w' => (∃ x : Int, e = .returned (.int .i64 x) ∧ decide (x ≥ 0) = has l k) ∧ w = w' := by
  have HN := hid (Texts.count ha)
  have hm := Nat.le_trans ha.hdr.le ha.hdr.max
  unfold maxLen at hm
  by_cases h0 : n = 0
  · subst h0
    have hl : l = [] := List.eq_nil_of_length_eq_zero (by have := HN.out; omega)
    subst hl
    clear ha
    go_enter Try.func77, Try.ntmps77
    go_wp2
    go_loop [8] (fun i => i = .int .i64 0) (fun _ => 0)
    case atStart => rfl
    case round =>
      obtain rfl := hrel
      go_wp2
      go_ret
      exact ⟨⟨-1, rfl, by simp [has]⟩, rfl⟩
  rcases ha.run with h | ⟨b, o, rfl, h1⟩
  · exact absurd h h0
  have HC := hid h1
  clear h1 h0 ha
  go_enter Try.func77, Try.ntmps77
  go_wp2
  go_loop [8] (fun i => ∃ j : Nat, j ≤ n ∧ i = .int .i64 j ∧ Hid (has (l.take j) k = false)) (fun i => n - (intOf i).toNat)
  case atStart => exact ⟨0, Nat.zero_le _, rfl, rfl⟩
  case round =>
    obtain ⟨j, hj, rfl, HH⟩ := hrel
    by_cases hlt : j < n
    · have hjl : j < l.length := by rw [← HN.out]; exact hlt
      have c1 := HC.out j _ (strs_at hjl)
      have hi : (j : Int) < (n : Int) := by omega
      have HT := hid (has_snoc (l.take j) (l.getD j default) k)
      rw [← take_snoc_getD hjl, HH.out] at HT
      generalize l.getD j default = x at *
      by_cases hx : k = x
      · have hs := streq_true hx
        have HF : Hid (has l k = true) := by
          show _ = _
          refine has_take_true (i := j + 1) ?_
          rw [HT.out]; simp [hx]
        clear hx
        go_wp2
        go_ret
        exact ⟨⟨j, rfl, by rw [HF.out]; simp⟩, rfl⟩
      · have hs := streq_false hx
        have HF : Hid (has (l.take (j + 1)) k = false) := by
          show _ = _
          rw [HT.out]; simpa using fun e => hx e.symm
        clear hx
        go_wp2
        go_round
        case rel => exact ⟨j + 1, by omega, by go_num, HF⟩
        case measure => simp [intOf]; omega
    · go_wp2
      go_ret
      refine ⟨⟨-1, rfl, ?_⟩, rfl⟩
      have : l.take j = l := List.take_of_length_le (by rw [← HN.out]; omega)
      rw [← this, HH.out]; rfl

theorem contains_calls (l : List ByteArray) (base : Option Addr) (n c : Nat) (k : ByteArray) (w : World) (ha : Texts w base n c l) :
    Calls Try.prog 71 #[.slice base n c, .string k] w fun e w' => e = .returned (.bool (has l k)) ∧ w = w' := by
  have HI := hid (index_calls l base n c k w ha)
  clear ha
  go_enter Try.func71, Try.ntmps71
  go_wp2_with fail
  refine HI.out.mono ?_
  rintro e w' ⟨⟨x, rfl, hx⟩, rfl⟩
  have HX := hid hx
  clear hx
  go_wp2
  go_ret
  exact ⟨ret_bool HX.out, rfl⟩

/-- The document's own search. -/
theorem refIn_calls (l : List ByteArray) (base : Option Addr) (n c : Nat) (k : ByteArray) (w : World) (ha : Texts w base n c l) :
    Calls Try.prog 48 #[.slice base n c, .string k] w fun e w' => e = .returned (.bool (has l k)) ∧ w = w' := by
  have HN := hid (Texts.count ha)
  have hm := Nat.le_trans ha.hdr.le ha.hdr.max
  unfold maxLen at hm
  by_cases h0 : n = 0
  · subst h0
    have hl : l = [] := List.eq_nil_of_length_eq_zero (by have := HN.out; omega)
    subst hl
    clear ha
    go_enter Try.func48, Try.ntmps48
    go_wp2
    go_loop [9] (fun i => i = .int .i64 0) (fun _ => 0)
    case atStart => rfl
    case round =>
      obtain rfl := hrel
      go_wp2
      go_ret
      exact ⟨rfl, rfl⟩
  rcases ha.run with h | ⟨b, o, rfl, h1⟩
  · exact absurd h h0
  have HC := hid h1
  clear h1 h0 ha
  go_enter Try.func48, Try.ntmps48
  go_wp2
  go_loop [9] (fun i => ∃ j : Nat, j ≤ n ∧ i = .int .i64 j ∧ Hid (has (l.take j) k = false)) (fun i => n - (intOf i).toNat)
  case atStart => exact ⟨0, Nat.zero_le _, rfl, rfl⟩
  case round =>
    obtain ⟨j, hj, rfl, HH⟩ := hrel
    by_cases hlt : j < n
    · have hjl : j < l.length := by rw [← HN.out]; exact hlt
      have c1 := HC.out j _ (strs_at hjl)
      have hi : (j : Int) < (n : Int) := by omega
      have HT := hid (has_snoc (l.take j) (l.getD j default) k)
      rw [← take_snoc_getD hjl, HH.out] at HT
      generalize l.getD j default = x at *
      by_cases hx : x = k
      · have hs := streq_true hx
        have HF : Hid (has l k = true) := by
          show _ = _
          refine has_take_true (i := j + 1) ?_
          rw [HT.out]; simp [hx]
        clear hx
        go_wp2
        go_ret
        exact ⟨ret_bool HF.out.symm, rfl⟩
      · have hs := streq_false hx
        have HF : Hid (has (l.take (j + 1)) k = false) := by
          show _ = _
          rw [HT.out]; simpa using hx
        clear hx
        go_wp2
        go_round
        case rel => exact ⟨j + 1, by omega, by go_num, HF⟩
        case measure => simp [intOf]; omega
    · go_wp2
      go_ret
      refine ⟨ret_bool ?_, rfl⟩
      have : l.take j = l := List.take_of_length_le (by rw [← HN.out]; omega)
      rw [← this, HH.out]

theorem unnamed_calls (l : List ByteArray) (base : Option Addr) (n c : Nat) (k : ByteArray) (w : World) (ha : Texts w base n c l) :
    Calls Try.prog 74 #[.slice base n c, .string k] w fun e w' => e = .returned (.int .i64 (noKey l k)) ∧ w = w' := by
  have HI := hid (contains_calls l base n c k w ha)
  clear ha
  unfold noKey
  cases h : has l k with
  | true =>
    rw [h] at HI
    go_enter Try.func74, Try.ntmps74
    go_wp2_with fail
    refine HI.out.mono ?_
    rintro e w' ⟨rfl, rfl⟩
    go_wp2
    go_ret
    exact ⟨rfl, rfl⟩
  | false =>
    rw [h] at HI
    go_enter Try.func74, Try.ntmps74
    go_wp2_with fail
    refine HI.out.mono ?_
    rintro e w' ⟨rfl, rfl⟩
    go_wp2
    go_ret
    exact ⟨rfl, rfl⟩

set_option maxHeartbeats 1000000 in
theorem wrongKeys_calls (l : List ByteArray) (base : Option Addr) (n c : Nat) (w : World) (hsm : ∀ x ∈ l, x.size ≤ maxLen) (ha : Texts w base n c l) :
    Calls Try.prog 63 #[.slice base n c] w fun e w' => e = .returned (.int .i64 (wKeys l)) ∧ w = w' := by
  have hn := Texts.count ha
  by_cases h5 : 5 < n
  · have HW : Hid (wKeys l = 5) := by show _ = _; rw [wKeys, if_pos (by omega)]
    have hm := Nat.le_trans ha.hdr.le ha.hdr.max
    unfold maxLen at hm
    clear ha hn hsm
    go_enter Try.func63, Try.ntmps63
    go_wp2
    go_ret
    exact ⟨ret_int HW.out.symm, rfl⟩
  by_cases h0 : n = 0
  · subst h0
    have hl : l = [] := List.eq_nil_of_length_eq_zero (by omega)
    subst hl
    clear ha hn hsm h5
    go_enter Try.func63, Try.ntmps63
    go_wp2
    go_loop [10] (fun i => i = .int .i64 0) (fun _ => 0)
    case atStart => rfl
    case round =>
      obtain rfl := hrel
      go_wp2
      go_ret
      exact ⟨rfl, rfl⟩
  have hcap := ha.hdr.le
  have hmx := ha.hdr.max
  unfold maxLen at hmx
  have HW : Hid (wKeys l = if badTo l n = true then 7 else 0) := by show _ = _; rw [wKeys, if_neg (by omega), ← hn]
  have HA := hid ha
  rcases ha.run with h | ⟨b, o, rfl, h1⟩
  · exact absurd h h0
  have HC := hid h1
  have HN := hid hn
  have HS := hid hsm
  clear h1 h0 ha hn hsm
  go_enter Try.func63, Try.ntmps63
  go_wp2
  go_loop [10] (fun i => ∃ j : Nat, j ≤ n ∧ i = .int .i64 j ∧ Hid (badTo l j = false)) (fun i => n - (intOf i).toNat)
  case atStart => exact ⟨0, Nat.zero_le _, rfl, rfl⟩
  case round =>
    obtain ⟨j, hj, rfl, HH⟩ := hrel
    by_cases hlt : j < n
    · have hjl : j < l.length := by rw [← HN.out]; exact hlt
      have c1 := HC.out j _ (strs_at hjl)
      have hi : (j : Int) < (n : Int) := by omega
      have hz : (l.getD j default).size ≤ maxLen := HS.out _ (by simp [List.getD, hjl])
      have HB : Hid (badAt l j = (!keyB (l.getD j default) || has (l.take j) (l.getD j default))) := rfl
      have HT := hid (contains_calls (l.take j) (some ⟨b, o, none⟩) j c (l.getD j default) w (Texts.take HA.out hj))
      have HX : Hid (badAt l j = true → wKeys l = 7) := fun h => by rw [HW.out, HN.out, badTo_all hjl h]; rfl
      have HY : Hid (badAt l j = false → badTo l (j + 1) = false) := fun h => by simp [badTo, HH.out, h]
      generalize l.getD j default = x at *
      generalize badAt l j = bd at *
      generalize has (l.take j) x = hs at *
      cases hk : keyB x with
      | false =>
        rw [hk] at HB
        go_wp2_with fail
        refine (key_calls x _ hz).mono ?_
        rintro e w' ⟨rfl, rfl⟩
        rw [hk]
        go_wp2
        go_ret
        exact ⟨ret_int (HX.out (by rw [HB.out]; rfl)).symm, rfl⟩
      | true =>
        rw [hk] at HB
        cases hs with
        | true =>
          go_wp2_with fail
          refine (key_calls x _ hz).mono ?_
          rintro e w' ⟨rfl, rfl⟩
          rw [hk]
          go_wp2_with fail
          refine HT.out.mono ?_
          rintro e w' ⟨rfl, rfl⟩
          go_wp2
          go_ret
          exact ⟨ret_int (HX.out (by rw [HB.out]; rfl)).symm, rfl⟩
        | false =>
          go_wp2_with fail
          refine (key_calls x _ hz).mono ?_
          rintro e w' ⟨rfl, rfl⟩
          rw [hk]
          go_wp2_with fail
          refine HT.out.mono ?_
          rintro e w' ⟨rfl, rfl⟩
          go_wp2
          go_round
          case rel => exact ⟨j + 1, by omega, by go_num, HY.out (by rw [HB.out]; rfl)⟩
          case measure => simp [intOf]; omega
    · obtain rfl : j = n := by omega
      go_wp2
      go_ret
      exact ⟨ret_int (by rw [HW.out, HH.out]; rfl), rfl⟩
end Go.Proofs.Ytfchjhdgnibnnab
