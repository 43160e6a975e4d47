/-
  Wrong of the program and of the document's answer tell what is wrong with an entry, walked.
-/
import Derived.Test.YthmkgfdglkdjmaeGreatDoorOpenEnts
import Derived.Test.YthmkgfdglkdjmaeGreatDoorRefWrong
import Derived.Test.YthmkgfdglkdjmaeGreatDoorRepMath
namespace Go.Proofs.YthmkgfdglkdjmaeGreatDoor
open Go.RowKit

/-! ### The first one's error -/
def wD (d : Deed3) : Int := wDeed d.1 d.2.1 d.2.2
def firstW (l : List Deed3) : Int := (l.map wD).foldr (fun w r => if w = 0 then r else w) 0
theorem firstW_append : ∀ (a b : List Deed3), firstW (a ++ b) = if firstW a = 0 then firstW b else firstW a
  | [], b => by simp [firstW]
  | d :: a, b => by
    have ih := firstW_append a b
    unfold firstW at *
    simp only [List.cons_append, List.map_cons, List.foldr_cons]
    by_cases h : wD d = 0
    · rw [if_pos h, if_pos h, ih]
    · rw [if_neg h, if_neg h, if_neg h]
theorem firstW_one (d : Deed3) : firstW [d] = wD d := by
  unfold firstW
  simp only [List.map_cons, List.map_nil, List.foldr_cons, List.foldr_nil]
  split
  · rename_i h; exact h.symm
  · rfl
theorem firstW_on {D : List Deed3} {j : Nat} (hj : j < D.length) (h : firstW (D.take j) = 0) (h2 : wD (D.getD j default) = 0) : firstW (D.take (j + 1)) = 0 := by
  rw [take_snoc_getD hj, firstW_append, if_pos h, firstW_one, h2]
theorem firstW_stop {D : List Deed3} {j : Nat} (hj : j < D.length) (h : firstW (D.take j) = 0) (h2 : wD (D.getD j default) ≠ 0) : firstW D = wD (D.getD j default) := by
  have e : D = D.take (j + 1) ++ D.drop (j + 1) := (List.take_append_drop _ _).symm
  have h3 : firstW (D.take (j + 1)) = wD (D.getD j default) := by rw [take_snoc_getD hj, firstW_append, if_pos h, firstW_one]
  calc firstW D = firstW (D.take (j + 1) ++ D.drop (j + 1)) := by rw [← e]
    _ = _ := by rw [firstW_append, if_neg (by rw [h3]; exact h2), h3]
theorem wrongE_is (x : Ent) : wrongE x = if x.1 < 0 ∨ 11 < x.1 then 3 else if 6 < x.2.length then 5 else firstW x.2 := rfl

set_option maxHeartbeats 8000000 in
set_option maxRecDepth 100000 in
theorem refWrongE_calls (x : Ent) (v : Value) (w : World) (hv : EntV w v x) :
    Calls Tryz.prog 6 #[v] w fun e w' => e = .returned (.int .i64 (wrongE x)) ∧ Below w.heap.size w w' := by
  obtain ⟨db, dn, dc, rfl, hd⟩ := hv
  obtain ⟨m, D⟩ := x
  simp only at hd ⊢
  have hdm := Nat.le_trans hd.hdr.le hd.hdr.max
  unfold maxLen at hdm
  have HQ := hid (wrongE_is (m, D))
  have HLN := hid hd.len
  have HGE := hid (grew w (.cells #[.int .i64 m, .slice db dn dc] 24))
  have HD := hid (hd.below HGE.out)
  clear hd
  generalize wrongE (m, D) = q at *
  have x0 := box_cell w #[.int .i64 m, .slice db dn dc] 24 0 _ rfl
  have x1 := box_cell w #[.int .i64 m, .slice db dn dc] 24 1 _ rfl
  by_cases hm : m < 0 ∨ 11 < m
  · have HE : Hid (q = 3) := by show _ = _; rw [HQ.out, if_pos hm]
    by_cases h0 : m < 0
    · go_enter Tryz.func6, Tryz.ntmps6
      go_wp2
      go_ret
      exact ⟨by rw [HE.out]; rfl, HGE.out⟩
    · have h1 : m > 11 := by omega
      go_enter Tryz.func6, Tryz.ntmps6
      go_wp2
      go_ret
      exact ⟨by rw [HE.out]; rfl, HGE.out⟩
  have h0 : ¬ m < 0 := fun h => hm (.inl h)
  have h1 : ¬ m > 11 := fun h => hm (.inr h)
  by_cases hl : 6 < dn
  · have HE : Hid (q = 5) := by show _ = _; rw [HQ.out, if_neg hm, if_pos (by rw [← HLN.out]; exact hl)]
    have hl' : (dn : Int) > 6 := by omega
    go_enter Tryz.func6, Tryz.ntmps6
    go_wp2
    go_ret
    exact ⟨by rw [HE.out]; rfl, HGE.out⟩
  have HE : Hid (q = firstW D) := by show _ = _; rw [HQ.out, if_neg hm, if_neg (by rw [← HLN.out]; exact hl)]
  have hl' : ¬ (dn : Int) > 6 := by omega
  go_enter Tryz.func6, Tryz.ntmps6
  go_wp2
  clear HQ hm hl' h0 h1 x0 x1
  generalize w.alloc (.cells #[.int .i64 m, .slice db dn dc] 24) = A at *
  go_loopw [21] (fun i wr => ∃ j : Nat, j ≤ dn ∧ i = .int .i64 j ∧ Hid (firstW (D.take j) = 0) ∧ Hid (Below A.heap.size A wr)) (fun i _ => dn - (intOf i).toNat)
  case atStart => exact ⟨0, Nat.zero_le _, rfl, rfl, Below.refl _ _⟩
  case round =>
    obtain ⟨j, hj, rfl, HR, HBR⟩ := hrel
    by_cases hlt : j < dn
    · have hjl : j < D.length := by rw [← HLN.out]; exact hlt
      have hi : (j : Int) < (dn : Int) := by omega
      rcases (HD.out.below HBR.out).run with h | ⟨db1, dbo, rfl, hdr⟩
      · omega
      obtain ⟨rb, rn, rc, wb, wn, wc, cb, cn, cc, k0, k1, k2, hdi, hs1, hs2⟩ := hdr j hlt
      have hdb : db1 < wr.heap.size := by simpa using World.block_lt_of_cell? _ _ k0
      have HGW := hid (grew wr (.cells #[.slice rb rn rc, .slice wb wn wc, .slice cb cn cc] 39))
      have HW := hid (refWrongDeed_calls (D.getD j default).1 (D.getD j default).2.1 (D.getD j default).2.2 rb rn rc wb wn wc cb cn cc _ (hdi.below HGW.out) hs1 hs2)
      have HN1 := hid (firstW_on hjl HR.out)
      have HN2 := hid (firstW_stop hjl HR.out)
      unfold wD at HN1 HN2
      clear hdi hs1 hs2 hdr
      generalize wDeed (D.getD j default).1 (D.getD j default).2.1 (D.getD j default).2.2 = p at *
      go_wp2_with fail
      refine HW.out.mono ?_
      rintro e w2 ⟨rfl, hb2⟩
      have HB2 := hid (below_deep HBR.out (below_deep HGW.out hb2))
      clear hb2
      by_cases hp : p = 0
      · subst hp
        have HN := hid (HN1.out rfl)
        go_wp2
        go_roundw
        case rel => exact ⟨j + 1, by omega, by go_num, HN, HB2⟩
        case measure => simp [intOf]; omega
      · have HN := hid (HN2.out hp)
        have t := ne_true hp
        clear hp
        go_wp2
        go_ret
        exact ⟨by rw [HE.out, HN.out]; rfl, below_deep HGE.out HB2.out⟩
    · obtain rfl : j = dn := by omega
      have HN : Hid (firstW D = 0) := by
        have := HR.out
        rw [HLN.out, List.take_length] at this
        exact this
      go_wp2
      go_ret
      exact ⟨by rw [HE.out, HN.out]; rfl, below_deep HGE.out HBR.out⟩
set_option maxHeartbeats 8000000 in
set_option maxRecDepth 100000 in
theorem logWrong_calls (x : Ent) (v : Value) (w : World) (hv : EntV w v x) :
    Calls Tryz.prog 10 #[v] w fun e w' => e = .returned (.int .i64 (wrongE x)) ∧ Below w.heap.size w w' := by
  obtain ⟨db, dn, dc, rfl, hd⟩ := hv
  obtain ⟨m, D⟩ := x
  simp only at hd ⊢
  have hdm := Nat.le_trans hd.hdr.le hd.hdr.max
  unfold maxLen at hdm
  have HQ := hid (wrongE_is (m, D))
  have HLN := hid hd.len
  have HGE := hid (grew w (.cells #[.int .i64 m, .slice db dn dc] 24))
  have HD := hid (hd.below HGE.out)
  clear hd
  generalize wrongE (m, D) = q at *
  have x0 := box_cell w #[.int .i64 m, .slice db dn dc] 24 0 _ rfl
  have x1 := box_cell w #[.int .i64 m, .slice db dn dc] 24 1 _ rfl
  by_cases hm : m < 0 ∨ 11 < m
  · have HE : Hid (q = 3) := by show _ = _; rw [HQ.out, if_pos hm]
    by_cases h0 : m < 0
    · go_enter Tryz.func10, Tryz.ntmps10
      go_wp2
      go_ret
      exact ⟨by rw [HE.out]; rfl, HGE.out⟩
    · have h1 : m ≥ 12 := by omega
      go_enter Tryz.func10, Tryz.ntmps10
      go_wp2
      go_ret
      exact ⟨by rw [HE.out]; rfl, HGE.out⟩
  have h0 : ¬ m < 0 := fun h => hm (.inl h)
  have h1 : ¬ m ≥ 12 := fun h => hm (.inr (by omega))
  by_cases hl : 6 < dn
  · have HE : Hid (q = 5) := by show _ = _; rw [HQ.out, if_neg hm, if_pos (by rw [← HLN.out]; exact hl)]
    have hl' : (dn : Int) > 6 := by omega
    go_enter Tryz.func10, Tryz.ntmps10
    go_wp2
    go_ret
    exact ⟨by rw [HE.out]; rfl, HGE.out⟩
  have HE : Hid (q = firstW D) := by show _ = _; rw [HQ.out, if_neg hm, if_neg (by rw [← HLN.out]; exact hl)]
  have hl' : ¬ (dn : Int) > 6 := by omega
  go_enter Tryz.func10, Tryz.ntmps10
  go_wp2
  clear HQ hm hl' h0 h1 x0 x1
  generalize w.alloc (.cells #[.int .i64 m, .slice db dn dc] 24) = A at *
  go_loopw [23] (fun i wr => ∃ j : Nat, j ≤ dn ∧ i = .int .i64 j ∧ Hid (firstW (D.take j) = 0) ∧ Hid (Below A.heap.size A wr)) (fun i _ => dn - (intOf i).toNat)
  case atStart => exact ⟨0, Nat.zero_le _, rfl, rfl, Below.refl _ _⟩
  case round =>
    obtain ⟨j, hj, rfl, HR, HBR⟩ := hrel
    by_cases hlt : j < dn
    · have hjl : j < D.length := by rw [← HLN.out]; exact hlt
      have hi : (j : Int) < (dn : Int) := by omega
      rcases (HD.out.below HBR.out).run with h | ⟨db1, dbo, rfl, hdr⟩
      · omega
      obtain ⟨rb, rn, rc, wb, wn, wc, cb, cn, cc, k0, k1, k2, hdi, hs1, hs2⟩ := hdr j hlt
      have hdb : db1 < wr.heap.size := by simpa using World.block_lt_of_cell? _ _ k0
      have HGW := hid (grew wr (.cells #[.slice rb rn rc, .slice wb wn wc, .slice cb cn cc] 39))
      have HW := hid (wrongDeed_calls (D.getD j default).1 (D.getD j default).2.1 (D.getD j default).2.2 rb rn rc wb wn wc cb cn cc _ (hdi.below HGW.out) hs1 hs2)
      have HN1 := hid (firstW_on hjl HR.out)
      have HN2 := hid (firstW_stop hjl HR.out)
      unfold wD at HN1 HN2
      clear hdi hs1 hs2 hdr
      generalize wDeed (D.getD j default).1 (D.getD j default).2.1 (D.getD j default).2.2 = p at *
      go_wp2_with fail
      refine HW.out.mono ?_
      rintro e w2 ⟨rfl, hb2⟩
      have HB2 := hid (below_deep HBR.out (below_deep HGW.out hb2))
      clear hb2
      by_cases hp : p = 0
      · subst hp
        have HN := hid (HN1.out rfl)
        go_wp2
        go_roundw
        case rel => exact ⟨j + 1, by omega, by go_num, HN, HB2⟩
        case measure => simp [intOf]; omega
      · have HN := hid (HN2.out hp)
        have t := ne_true hp
        clear hp
        go_wp2
        go_ret
        exact ⟨by rw [HE.out, HN.out]; rfl, below_deep HGE.out HB2.out⟩
    · obtain rfl : j = dn := by omega
      have HN : Hid (firstW D = 0) := by
        have := HR.out
        rw [HLN.out, List.take_length] at this
        exact this
      go_wp2
      go_ret
      exact ⟨by rw [HE.out, HN.out]; rfl, below_deep HGE.out HBR.out⟩
end Go.Proofs.YthmkgfdglkdjmaeGreatDoor
