/-
  Wrong of the program and of the document's answer tell what is wrong with an entry, walked.
  Sum of the program and of the document's answer, walked.
-/
import Derived.Test.YthmkgfdglkdjmadGreatDoorEntIn
import Derived.Test.YthmkgfdglkdjmadGreatDoorRefWrong
import Derived.Test.YthmkgfdglkdjmadGreatDoorLogMath
import Derived.Test.YthmkgfdglkdjmadGreatDoorSplLib
namespace Go.Proofs.YthmkgfdglkdjmadGreatDoor
open Go.RowKit

/-! ### The first one's error -/
def wD (d : Deed3) : Int := wDeed d.1 d.2.1 d.2.2
def firstW (l : List Deed3) : Int := (l.map wD).foldr (fun w r => if w = 0 then r else w) 0
theorem firstW_append : ∀ (a b : List Deed3), firstW (a ++ b) = if firstW a = 0 then firstW b else firstW a
  | [], b => by simp [firstW]
  | d :: a, b => by
    have ih := firstW_append a b
    unfold firstW at *
    simp only [List.cons_append, List.map_cons, List.foldr_cons]
    by_cases h : wD d = 0
    · rw [if_pos h, if_pos h, ih]
    · rw [if_neg h, if_neg h, if_neg h]
theorem firstW_one (d : Deed3) : firstW [d] = wD d := by
  unfold firstW
  simp only [List.map_cons, List.map_nil, List.foldr_cons, List.foldr_nil]
  split
  · rename_i h; exact h.symm
  · rfl
theorem firstW_on {D : List Deed3} {j : Nat} (hj : j < D.length) (h : firstW (D.take j) = 0) (h2 : wD (D.getD j default) = 0) : firstW (D.take (j + 1)) = 0 := by
  rw [take_snoc_getD hj, firstW_append, if_pos h, firstW_one, h2]
theorem firstW_stop {D : List Deed3} {j : Nat} (hj : j < D.length) (h : firstW (D.take j) = 0) (h2 : wD (D.getD j default) ≠ 0) : firstW D = wD (D.getD j default) := by
  have e : D = D.take (j + 1) ++ D.drop (j + 1) := (List.take_append_drop _ _).symm
  have h3 : firstW (D.take (j + 1)) = wD (D.getD j default) := by rw [take_snoc_getD hj, firstW_append, if_pos h, firstW_one]
  calc firstW D = firstW (D.take (j + 1) ++ D.drop (j + 1)) := by rw [← e]
    _ = _ := by rw [firstW_append, if_neg (by rw [h3]; exact h2), h3]
theorem wrongE_is (x : Ent) : wrongE x = if x.1 < 0 ∨ 11 < x.1 then 3 else if 6 < x.2.length then 5 else firstW x.2 := rfl

set_option maxHeartbeats 8000000 in
set_option maxRecDepth 100000 in
theorem refWrongE_calls (x : Ent) (v : Value) (w : World) (hv : EntV w v x) :
    Calls Tryz.prog 21 #[v] w fun e w' => e = .returned (.int .i64 (wrongE x)) ∧ Below w.heap.size w w' := by
  obtain ⟨db, dn, dc, rfl, hd⟩ := hv
  obtain ⟨m, D⟩ := x
  simp only at hd ⊢
  have hdm := Nat.le_trans hd.hdr.le hd.hdr.max
  unfold maxLen at hdm
  have HQ := hid (wrongE_is (m, D))
  have HLN := hid hd.len
  have HGE := hid (grew w (.cells #[.int .i64 m, .slice db dn dc] 61))
  have HD := hid (hd.below HGE.out)
  clear hd
  generalize wrongE (m, D) = q at *
  have x0 := box_cell w #[.int .i64 m, .slice db dn dc] 61 0 _ rfl
  have x1 := box_cell w #[.int .i64 m, .slice db dn dc] 61 1 _ rfl
  by_cases hm : m < 0 ∨ 11 < m
  · have HE : Hid (q = 3) := by show _ = _; rw [HQ.out, if_pos hm]
    by_cases h0 : m < 0
    · go_enter Tryz.func21, Tryz.ntmps21
      go_wp2
      go_ret
      exact ⟨by rw [HE.out]; rfl, HGE.out⟩
    · have h1 : m > 11 := by omega
      go_enter Tryz.func21, Tryz.ntmps21
      go_wp2
      go_ret
      exact ⟨by rw [HE.out]; rfl, HGE.out⟩
  have h0 : ¬ m < 0 := fun h => hm (.inl h)
  have h1 : ¬ m > 11 := fun h => hm (.inr h)
  by_cases hl : 6 < dn
  · have HE : Hid (q = 5) := by show _ = _; rw [HQ.out, if_neg hm, if_pos (by rw [← HLN.out]; exact hl)]
    have hl' : (dn : Int) > 6 := by omega
    go_enter Tryz.func21, Tryz.ntmps21
    go_wp2
    go_ret
    exact ⟨by rw [HE.out]; rfl, HGE.out⟩
  have HE : Hid (q = firstW D) := by show _ = _; rw [HQ.out, if_neg hm, if_neg (by rw [← HLN.out]; exact hl)]
  have hl' : ¬ (dn : Int) > 6 := by omega
  go_enter Tryz.func21, Tryz.ntmps21
  go_wp2
  clear HQ hm hl' h0 h1 x0 x1
  generalize w.alloc (.cells #[.int .i64 m, .slice db dn dc] 61) = A at *
  go_loopw [21] (fun i wr => ∃ j : Nat, j ≤ dn ∧ i = .int .i64 j ∧ Hid (firstW (D.take j) = 0) ∧ Hid (Below A.heap.size A wr)) (fun i _ => dn - (intOf i).toNat)
  case atStart => exact ⟨0, Nat.zero_le _, rfl, rfl, Below.refl _ _⟩
  case round =>
    obtain ⟨j, hj, rfl, HR, HBR⟩ := hrel
    by_cases hlt : j < dn
    · have hjl : j < D.length := by rw [← HLN.out]; exact hlt
      have hi : (j : Int) < (dn : Int) := by omega
      rcases (HD.out.below HBR.out).run with h | ⟨db1, dbo, rfl, hdr⟩
      · omega
      obtain ⟨rb, rn, rc, wb, wn, wc, cb, cn, cc, k0, k1, k2, hdi, hs1, hs2⟩ := hdr j hlt
      have hdb : db1 < wr.heap.size := by simpa using World.block_lt_of_cell? _ _ k0
      have HGW := hid (grew wr (.cells #[.slice rb rn rc, .slice wb wn wc, .slice cb cn cc] 75))
      have HW := hid (refWrongDeed_calls (D.getD j default).1 (D.getD j default).2.1 (D.getD j default).2.2 rb rn rc wb wn wc cb cn cc _ (hdi.below HGW.out) hs1 hs2)
      have HN1 := hid (firstW_on hjl HR.out)
      have HN2 := hid (firstW_stop hjl HR.out)
      unfold wD at HN1 HN2
      clear hdi hs1 hs2 hdr
      generalize wDeed (D.getD j default).1 (D.getD j default).2.1 (D.getD j default).2.2 = p at *
      go_wp2_with fail
      refine HW.out.mono ?_
      rintro e w2 ⟨rfl, hb2⟩
      have HB2 := hid (below_deep HBR.out (below_deep HGW.out hb2))
      clear hb2
      by_cases hp : p = 0
      · subst hp
        have HN := hid (HN1.out rfl)
        go_wp2
        go_roundw
        case rel => exact ⟨j + 1, by omega, by go_num, HN, HB2⟩
        case measure => simp [intOf]; omega
      · have HN := hid (HN2.out hp)
        have t := ne_true hp
        clear hp
        go_wp2
        go_ret
        exact ⟨by rw [HE.out, HN.out]; rfl, below_deep HGE.out HB2.out⟩
    · obtain rfl : j = dn := by omega
      have HN : Hid (firstW D = 0) := by
        have := HR.out
        rw [HLN.out, List.take_length] at this
        exact this
      go_wp2
      go_ret
      exact ⟨by rw [HE.out, HN.out]; rfl, below_deep HGE.out HBR.out⟩
set_option maxHeartbeats 8000000 in
set_option maxRecDepth 100000 in
theorem logWrong_calls (x : Ent) (v : Value) (w : World) (hv : EntV w v x) :
    Calls Tryz.prog 20 #[v] w fun e w' => e = .returned (.int .i64 (wrongE x)) ∧ Below w.heap.size w w' := by
  obtain ⟨db, dn, dc, rfl, hd⟩ := hv
  obtain ⟨m, D⟩ := x
  simp only at hd ⊢
  have hdm := Nat.le_trans hd.hdr.le hd.hdr.max
  unfold maxLen at hdm
  have HQ := hid (wrongE_is (m, D))
  have HLN := hid hd.len
  have HGE := hid (grew w (.cells #[.int .i64 m, .slice db dn dc] 61))
  have HD := hid (hd.below HGE.out)
  clear hd
  generalize wrongE (m, D) = q at *
  have x0 := box_cell w #[.int .i64 m, .slice db dn dc] 61 0 _ rfl
  have x1 := box_cell w #[.int .i64 m, .slice db dn dc] 61 1 _ rfl
  by_cases hm : m < 0 ∨ 11 < m
  · have HE : Hid (q = 3) := by show _ = _; rw [HQ.out, if_pos hm]
    by_cases h0 : m < 0
    · go_enter Tryz.func20, Tryz.ntmps20
      go_wp2
      go_ret
      exact ⟨by rw [HE.out]; rfl, HGE.out⟩
    · have h1 : m ≥ 12 := by omega
      go_enter Tryz.func20, Tryz.ntmps20
      go_wp2
      go_ret
      exact ⟨by rw [HE.out]; rfl, HGE.out⟩
  have h0 : ¬ m < 0 := fun h => hm (.inl h)
  have h1 : ¬ m ≥ 12 := fun h => hm (.inr (by omega))
  by_cases hl : 6 < dn
  · have HE : Hid (q = 5) := by show _ = _; rw [HQ.out, if_neg hm, if_pos (by rw [← HLN.out]; exact hl)]
    have hl' : (dn : Int) > 6 := by omega
    go_enter Tryz.func20, Tryz.ntmps20
    go_wp2
    go_ret
    exact ⟨by rw [HE.out]; rfl, HGE.out⟩
  have HE : Hid (q = firstW D) := by show _ = _; rw [HQ.out, if_neg hm, if_neg (by rw [← HLN.out]; exact hl)]
  have hl' : ¬ (dn : Int) > 6 := by omega
  go_enter Tryz.func20, Tryz.ntmps20
  go_wp2
  clear HQ hm hl' h0 h1 x0 x1
  generalize w.alloc (.cells #[.int .i64 m, .slice db dn dc] 61) = A at *
  go_loopw [23] (fun i wr => ∃ j : Nat, j ≤ dn ∧ i = .int .i64 j ∧ Hid (firstW (D.take j) = 0) ∧ Hid (Below A.heap.size A wr)) (fun i _ => dn - (intOf i).toNat)
  case atStart => exact ⟨0, Nat.zero_le _, rfl, rfl, Below.refl _ _⟩
  case round =>
    obtain ⟨j, hj, rfl, HR, HBR⟩ := hrel
    by_cases hlt : j < dn
    · have hjl : j < D.length := by rw [← HLN.out]; exact hlt
      have hi : (j : Int) < (dn : Int) := by omega
      rcases (HD.out.below HBR.out).run with h | ⟨db1, dbo, rfl, hdr⟩
      · omega
      obtain ⟨rb, rn, rc, wb, wn, wc, cb, cn, cc, k0, k1, k2, hdi, hs1, hs2⟩ := hdr j hlt
      have hdb : db1 < wr.heap.size := by simpa using World.block_lt_of_cell? _ _ k0
      have HGW := hid (grew wr (.cells #[.slice rb rn rc, .slice wb wn wc, .slice cb cn cc] 75))
      have HW := hid (wrongDeed_calls (D.getD j default).1 (D.getD j default).2.1 (D.getD j default).2.2 rb rn rc wb wn wc cb cn cc _ (hdi.below HGW.out) hs1 hs2)
      have HN1 := hid (firstW_on hjl HR.out)
      have HN2 := hid (firstW_stop hjl HR.out)
      unfold wD at HN1 HN2
      clear hdi hs1 hs2 hdr
      generalize wDeed (D.getD j default).1 (D.getD j default).2.1 (D.getD j default).2.2 = p at *
      go_wp2_with fail
      refine HW.out.mono ?_
      rintro e w2 ⟨rfl, hb2⟩
      have HB2 := hid (below_deep HBR.out (below_deep HGW.out hb2))
      clear hb2
      by_cases hp : p = 0
      · subst hp
        have HN := hid (HN1.out rfl)
        go_wp2
        go_roundw
        case rel => exact ⟨j + 1, by omega, by go_num, HN, HB2⟩
        case measure => simp [intOf]; omega
      · have HN := hid (HN2.out hp)
        have t := ne_true hp
        clear hp
        go_wp2
        go_ret
        exact ⟨by rw [HE.out, HN.out]; rfl, below_deep HGE.out HB2.out⟩
    · obtain rfl : j = dn := by omega
      have HN : Hid (firstW D = 0) := by
        have := HR.out
        rw [HLN.out, List.take_length] at this
        exact this
      go_wp2
      go_ret
      exact ⟨by rw [HE.out, HN.out]; rfl, below_deep HGE.out HBR.out⟩
end Go.Proofs.YthmkgfdglkdjmadGreatDoor

namespace Go.Proofs.YthmkgfdglkdjmadGreatDoor
open Go.RowKit

set_option maxHeartbeats 2000000 in
theorem refSum_calls (l : T) (b : Option Addr) (n c : Nat) (w : World) (h : BytesIn w b n c l) :
    Calls Tryz.prog 23 #[.slice b n c] w fun e w' => e = .returned (.int .i64 (sumT l)) ∧ w' = w := by
  have hn := BytesIn.count h
  have hm := Nat.le_trans h.hdr.le h.hdr.max
  unfold maxLen at hm
  have HB := hid h
  have HN := hid hn
  clear h hn
  go_enter Tryz.func23, Tryz.ntmps23
  go_wp2
  go_loop [3, 8] (fun s i => ∃ k z : Nat, k ≤ n ∧ i = .int .i64 k ∧ s = .int .i64 z ∧ z < 65521 ∧ Hid (z = sumT (l.take k))) (fun _ i => n - (intOf i).toNat)
  case atStart => exact ⟨0, 1, Nat.zero_le _, rfl, rfl, by decide, rfl⟩
  case round =>
    obtain ⟨k, z, hk, rfl, rfl, hz, HZ⟩ := hrel
    by_cases hlt : k < n
    · have hkl : k < l.length := by rw [← HN.out]; exact hlt
      rcases HB.out.run with h | ⟨b1, o1, rfl, r1⟩
      · omega
      have a0 := r1 k _ (bytesC_at hkl)
      have HS := hid (sum_take hkl)
      clear r1
      generalize l.getD k 0 = x at *
      have hx := x.toNat_lt
      have hi : (k : Int) < (n : Int) := by omega
      have HR : Hid (((stepS z x : Nat) : Int) = (257 * (z : Int) + (x.toNat : Int) + 1) % 65521) := by show _ = _; unfold stepS; omega
      go_wp2
      go_round
      case rel => exact ⟨k + 1, stepS z x, by omega, by go_num, by rw [HR.out], step_lt _ _, by show _ = _; rw [HS.out, HZ.out]⟩
      case measure => simp [intOf]; omega
    · obtain rfl : k = n := by omega
      have HE : Hid (z = sumT l) := by
        have := HZ.out
        rw [HN.out, List.take_length] at this
        exact this
      go_wp2
      go_ret
      have e := HE.out
      subst e
      exact ⟨rfl, rfl⟩
set_option maxHeartbeats 2000000 in
theorem logSum_calls (l : T) (b : Option Addr) (n c : Nat) (w : World) (h : BytesIn w b n c l) :
    Calls Tryz.prog 22 #[.slice b n c] w fun e w' => e = .returned (.int .i64 (sumT l)) ∧ w' = w := by
  have hn := BytesIn.count h
  have hm := Nat.le_trans h.hdr.le h.hdr.max
  unfold maxLen at hm
  have HB := hid h
  have HN := hid hn
  clear h hn
  go_enter Tryz.func22, Tryz.ntmps22
  go_wp2
  go_loop [3, 8] (fun s i => ∃ k z : Nat, k ≤ n ∧ i = .int .i64 k ∧ s = .int .i64 z ∧ z < 65521 ∧ Hid (z = sumT (l.take k))) (fun _ i => n - (intOf i).toNat)
  case atStart => exact ⟨0, 1, Nat.zero_le _, rfl, rfl, by decide, rfl⟩
  case round =>
    obtain ⟨k, z, hk, rfl, rfl, hz, HZ⟩ := hrel
    by_cases hlt : k < n
    · have hkl : k < l.length := by rw [← HN.out]; exact hlt
      rcases HB.out.run with h | ⟨b1, o1, rfl, r1⟩
      · omega
      have a0 := r1 k _ (bytesC_at hkl)
      have HS := hid (sum_take hkl)
      clear r1
      generalize l.getD k 0 = x at *
      have hx := x.toNat_lt
      have hi : (k : Int) < (n : Int) := by omega
      have HR : Hid (((stepS z x : Nat) : Int) = ((z : Int) * 257 + (x.toNat : Int) + 1) % 65521) := by show _ = _; unfold stepS; omega
      go_wp2
      go_round
      case rel => exact ⟨k + 1, stepS z x, by omega, by go_num, by rw [HR.out], step_lt _ _, by show _ = _; rw [HS.out, HZ.out]⟩
      case measure => simp [intOf]; omega
    · obtain rfl : k = n := by omega
      have HE : Hid (z = sumT l) := by
        have := HZ.out
        rw [HN.out, List.take_length] at this
        exact this
      go_wp2
      go_ret
      have e := HE.out
      subst e
      exact ⟨rfl, rfl⟩
end Go.Proofs.YthmkgfdglkdjmadGreatDoor
