/-
  Whether two deeds are the same, by the program and by the document's answer; a copy of a deed.
-/
import Derived.Test.YtddmdbjedainoaaDoorDeedTurn
import Derived.Deep.QuietTactic
import Derived.BigQuiet
namespace Go.Proofs.YtddmdbjedainoaaDoor
open Go.RowKit

theorem take_both {α : Type} [Inhabited α] {l m : List α} {k : Nat} (h1 : k < l.length) (h2 : k < m.length) (h : l.take k = m.take k) (e : l.getD k default = m.getD k default) : l.take (k + 1) = m.take (k + 1) := by
  rw [take_snoc_getD h1, take_snoc_getD h2, h, e]
theorem first_diff {x0 x1 x2 x3 y0 y1 y2 y3 : Int} {x4 y4 : ByteArray} (h : ¬ (x0, x1, x2, x3, x4) = (y0, y1, y2, y3, y4)) : x0 ≠ y0 ∨ (x0 = y0 ∧ x1 ≠ y1) ∨ (x0 = y0 ∧ x1 = y1 ∧ x2 ≠ y2) ∨ (x0 = y0 ∧ x1 = y1 ∧ x2 = y2 ∧ x3 ≠ y3) ∨ (x0 = y0 ∧ x1 = y1 ∧ x2 = y2 ∧ x3 = y3 ∧ x4 ≠ y4) := by
  simp only [Prod.mk.injEq] at h
  by_cases e0 : x0 = y0 <;> by_cases e1 : x1 = y1 <;> by_cases e2 : x2 = y2 <;> by_cases e3 : x3 = y3 <;> simp_all
theorem ne_both {α : Type} [Inhabited α] {l m : List α} {k : Nat} (h : l.getD k default ≠ m.getD k default) : l ≠ m := fun e => h (by rw [e])

set_option maxHeartbeats 1000000 in
theorem sameTexts_calls (l m : List ByteArray) (ba : Option Addr) (na ca : Nat) (bb : Option Addr) (nb cb : Nat) (w : World) (ha : Texts w ba na ca l) (hb : Texts w bb nb cb m) :
    Calls Tryd.prog 18 #[.slice ba na ca, .slice bb nb cb] w fun e w' => e = .returned (.bool (decide (l = m))) ∧ ∃ q, w' = w.drewN q := by
  have HA := hid (Texts.count ha)
  have HB := hid (Texts.count hb)
  have hma := Nat.le_trans ha.hdr.le ha.hdr.max
  have hmb := Nat.le_trans hb.hdr.le hb.hdr.max
  unfold maxLen at hma hmb
  by_cases hne : na = nb
  · subst hne
    by_cases h0 : na = 0
    · subst h0
      have h1 : l = [] := List.eq_nil_of_length_eq_zero (by have := HA.out; omega)
      have h2 : m = [] := List.eq_nil_of_length_eq_zero (by have := HB.out; omega)
      subst h1
      subst h2
      clear ha hb
      go_enter Tryd.func18, Tryd.ntmps18
      go_wp2
      go_loop [13] (fun i => i = .int .i64 0) (fun _ => 0)
      case atStart => rfl
      case round =>
        obtain rfl := hrel
        go_wp2
        go_ret
        exact ⟨rfl, 0, rfl⟩
    rcases ha.run with h | ⟨b1, o1, rfl, h1⟩
    · exact absurd h h0
    rcases hb.run with h | ⟨b2, o2, rfl, h2⟩
    · exact absurd h h0
    have H1 := hid h1
    have H2 := hid h2
    clear h1 h2 ha hb h0
    go_enter Tryd.func18, Tryd.ntmps18
    go_wp2
    go_loopw [13] (fun i wr => ∃ k : Nat, k ≤ na ∧ i = .int .i64 k ∧ Hid (l.take k = m.take k) ∧ ∃ q, wr = w.drewN q) (fun i _ => na - (intOf i).toNat)
    case atStart => exact ⟨0, Nat.zero_le _, rfl, rfl, 0, rfl⟩
    case round =>
      obtain ⟨k, hk, rfl, HT, q, rfl⟩ := hrel
      by_cases hlt : k < na
      · have hk1 : k < l.length := by rw [← HA.out]; exact hlt
        have hk2 : k < m.length := by rw [← HB.out]; exact hlt
        have c1 := H1.out k _ (strs_at hk1)
        have c2 := H2.out k _ (strs_at hk2)
        have HS := hid (take_both hk1 hk2 HT.out)
        have HF := hid (ne_both (l := l) (m := m) (k := k))
        generalize l.getD k default = x at *
        generalize m.getD k default = y at *
        have hi : (k : Int) < (na : Int) := by omega
        by_cases he : x = y
        · subst he
          have t : (x.toList == x.toList) = true := by simp
          go_wp2
          go_quiet (fail)
          go_wp2
          go_roundw
          case rel => exact ⟨k + 1, by omega, by go_num, HS.out (by simp), _, rfl⟩
          case measure => simp [intOf]; omega
        · have t := streq_false he
          have HN := hid (HF.out he)
          clear he
          go_wp2
          go_quiet (fail)
          go_wp2
          go_ret
          exact ⟨ret_bool (by simp [HN.out]), _, World.drewN_drewN _ _ _⟩
      · obtain rfl : k = na := by omega
        have HE : Hid (l = m) := by
          show _ = _
          have := HT.out
          rwa [List.take_of_length_le (by rw [← HA.out]; exact Nat.le_refl _), List.take_of_length_le (by rw [← HB.out]; exact Nat.le_refl _)] at this
        go_wp2
        go_ret
        exact ⟨ret_bool (by simp [HE.out]), _, rfl⟩
  · have HN : Hid (l ≠ m) := fun e => hne (by rw [HA.out, HB.out, e])
    have t : ((na : Int) == (nb : Int)) = false := by simp; omega
    clear ha hb
    go_enter Tryd.func18, Tryd.ntmps18
    go_wp2
    go_ret
    exact ⟨ret_bool (by simp [HN.out]), 0, rfl⟩

end Go.Proofs.YtddmdbjedainoaaDoor
