/-
  The text that the document writes of a right deed is the deed's text.
-/
import Derived.Test.YthmkgfdglkdjmadGreatDoorPlanOwn
import Derived.Test.YthmkgfdglkdjmadGreatDoorMapRune
import Derived.Test.YthmkgfdglkdjmadGreatDoorRefWord
import Derived.Deep.RegionWith
import Derived.Lib.OthersKept
namespace Go.Proofs.YthmkgfdglkdjmadGreatDoor
open Go.RowKit

theorem key_size {R : List ByteArray} (h : wKeys R = 0) {j : Nat} (hj : j < R.length) : (R.getD j default).size ≤ 6 := by
  have hm : R.getD j default ∈ R := by simp [List.getD, hj]
  have := key_len (wKeys_key h hm)
  rwa [keyT_len] at this

theorem tail_mem {x : T} : ∀ {l : List T}, x ∈ l → x.length + 1 ≤ (tail1 l).length
  | [], h => by cases h
  | y :: l, h => by
    have e : (tail1 (y :: l)).length = y.length + 1 + (tail1 l).length := by simp [tail1]; omega
    rcases List.mem_cons.1 h with rfl | h
    · omega
    · have := tail_mem h; omega
theorem fill_small {i : Ins} {k : Nat} (hw : join1 (insWords i) = word k ++ tail1 ((keyT (form k)).map fun c => fillP i (placeOf c))) (hl : (join1 (insWords i)).length ≤ 21) {c : UInt8} (hc : c ∈ keyT (form k)) : (wordOf i c).size ≤ 21 := by
  have h1 := tail_mem (List.mem_map_of_mem (f := fun c => fillP i (placeOf c)) hc)
  rw [hw, List.length_append] at hl
  unfold wordOf
  rw [ofT_size]
  omega

set_option maxRecDepth 100000 in
set_option maxHeartbeats 8000000 in
theorem refPrint_calls (R W : List ByteArray) (C : List Ins) (rb : Option Addr) (rn rc : Nat) (wb : Option Addr) (wn wc : Nat) (cb : Option Addr) (cn cc : Nat) (w : World) (hG : Ground w) (hd : DeedIn w rb rn rc wb wn wc cb cn cc R W C) (hok : wDeed R W C = 0) :
    Calls Tryz.prog 47 #[.agg #[.slice rb rn rc, .slice wb wn wc, .slice cb cn cc]] w fun e w' => e = .returned (.string (ofT (printT R W C))) ∧ Below w.heap.size w w' := by
  have hR := right_deed hok
  have hrn := Texts.count hd.tr
  have hwn := Texts.count hd.tw
  have hcn := Codes.count hd.cd
  have hr5 := wKeys_len hR.r
  have hw5 := wKeys_len hR.w
  have hc12 := hR.c
  have HRD := hid hR
  have HRN := hid hrn
  have HWN := hid hwn
  have HCN := hid hcn
  have hrn5 : rn ≤ 5 := by omega
  have hwn5 : wn ≤ 5 := by omega
  have hcn12 : cn ≤ 12 := by omega
  have HB0 : Hid (Below w.heap.size w (w.alloc (.cells #[.slice rb rn rc, .slice wb wn wc, .slice cb cn cc] 75))) := grew _ _
  have HG := hid hG
  have HD0 := hid (hd.below HB0.out)
  have HD := hid hd
  have x1 := box_cell w #[.slice rb rn rc, .slice wb wn wc, .slice cb cn cc] 75 1 (.slice wb wn wc) rfl
  have x2 := box_cell w #[.slice rb rn rc, .slice wb wn wc, .slice cb cn cc] 75 2 (.slice cb cn cc) rfl
  obtain ⟨A, hA⟩ : ∃ A, A = w.alloc (.cells #[.slice rb rn rc, .slice wb wn wc, .slice cb cn cc] 75) := ⟨_, rfl⟩
  clear hd hok hR hG hrn hwn hr5 hw5 hc12 hcn
  go_enter Tryz.func47, Tryz.ntmps47
  go_wp2
  rw [← hA] at HB0 HD0 x1 x2 ⊢
  clear hA
  go_loop [3, 15] (fun z c => ∃ (j : Nat) (Z : ByteArray), j ≤ rn ∧ Z.size ≤ 5 + 7 * j ∧ c = .int .i64 j ∧ z = .string Z ∧ Hid (keyT Z = front0 R j)) (fun _ c => rn - (intOf c).toNat)
  case atStart => exact ⟨0, ⟨#[114, 101, 97, 100, 115]⟩, Nat.zero_le _, by decide, rfl, rfl, rfl⟩
  case round =>
    obtain ⟨j, Z, hj, hZ, rfl, rfl, HZ⟩ := hrel
    by_cases hlt : j < rn
    case pos =>
      have hjl : j < R.length := by have := HRN.out; omega
      obtain ⟨b, o, rfl, hr⟩ : ∃ b o, rb = some ⟨b, o, none⟩ ∧ Run A b o (strs R) := by
        rcases HD0.out.tr.run with h | h
        · omega
        · exact h
      have c1 := hr j _ (strs_at hjl)
      have hk6 := key_size HRD.out.r hjl
      have hi : (j : Int) < (rn : Int) := by omega
      have HN := hid (front0_next R hjl)
      clear hr hjl
      generalize R.getD j default = K at *
      go_wp2
      go_round
      case rel =>
        refine ⟨j + 1, Z ++ ⟨#[32]⟩ ++ K, by omega, ?_, by go_num, rfl, ?_⟩
        · rw [size_append, size_append]
          have : (⟨#[32]⟩ : ByteArray).size = 1 := rfl
          omega
        · show _ = _
          rw [keyT_append, keyT_append, HZ.out, HN.out, List.append_assoc]; rfl
      case measure => simp [intOf]; omega
    case neg =>
      obtain rfl : j = rn := by omega
      clear hlt
      have HZ1 : Hid (keyT (Z ++ ⟨#[59, 32, 119, 114, 105, 116, 101, 115]⟩) = front1 R W 0) := by
        show _ = _
        rw [keyT_append, HZ.out, HRN.out]
        unfold front1 tail1
        simp [keyT, wWrites]
      have hZ1 : (Z ++ ⟨#[59, 32, 119, 114, 105, 116, 101, 115]⟩).size ≤ 48 := by
        rw [size_append]
        have : (⟨#[59, 32, 119, 114, 105, 116, 101, 115]⟩ : ByteArray).size = 8 := rfl
        omega
      go_wp2
      generalize Z ++ ⟨#[59, 32, 119, 114, 105, 116, 101, 115]⟩ = Y at *
      go_loop [3, 29] (fun z c => ∃ (j : Nat) (Z : ByteArray), j ≤ wn ∧ Z.size ≤ 48 + 7 * j ∧ c = .int .i64 j ∧ z = .string Z ∧ Hid (keyT Z = front1 R W j)) (fun _ c => wn - (intOf c).toNat)
      case atStart => exact ⟨0, Y, Nat.zero_le _, hZ1, rfl, rfl, HZ1⟩
      case round =>
        clear HZ HZ1 hZ1 hZ
        obtain ⟨j, Z, hj, hZ, rfl, rfl, HZ⟩ := hrel
        by_cases hlt : j < wn
        case pos =>
          have hjl : j < W.length := by have := HWN.out; omega
          obtain ⟨b, o, rfl, hr⟩ : ∃ b o, wb = some ⟨b, o, none⟩ ∧ Run A b o (strs W) := by
            rcases HD0.out.tw.run with h | h
            · omega
            · exact h
          have c1 := hr j _ (strs_at hjl)
          have hk6 := key_size HRD.out.w hjl
          have hi : (j : Int) < (wn : Int) := by omega
          have HN := hid (front1_next R W hjl)
          clear hr hjl
          generalize W.getD j default = K at *
          go_wp2
          go_round
          case rel =>
            refine ⟨j + 1, Z ++ ⟨#[32]⟩ ++ K, by omega, ?_, by go_num, rfl, ?_⟩
            · rw [size_append, size_append]
              have : (⟨#[32]⟩ : ByteArray).size = 1 := rfl
              omega
            · show _ = _
              rw [keyT_append, keyT_append, HZ.out, HN.out, List.append_assoc]; rfl
          case measure => simp [intOf]; omega
        case neg =>
          obtain rfl : j = wn := by omega
          clear hlt
          have HZ1 : Hid (keyT Z = front2 R W C 0) := by
            show _ = _
            rw [HZ.out, HWN.out]
            unfold front2 tail2
            simp
          go_wp2
          go_loopw [3, 41] (fun z c wr => ∃ (j : Nat) (Z : ByteArray), j ≤ cn ∧ Z.size ≤ 100 + 60 * j ∧ c = .int .i64 j ∧ z = .string Z ∧ Hid (keyT Z = front2 R W C j) ∧ Hid (Below w.heap.size w wr)) (fun _ c _ => cn - (intOf c).toNat)
          case atStart => exact ⟨0, Z, Nat.zero_le _, by omega, rfl, rfl, HZ1, HB0⟩
          case round =>
            clear HZ HZ1 hZ
            obtain ⟨j, Z, hj, hZ, rfl, rfl, HZ, HB⟩ := hrel
            by_cases hlt : j < cn
            case neg =>
              obtain rfl : j = cn := by omega
              have HE : Hid (Z = ofT (printT R W C)) := by
                show _ = _
                rw [← front2_all R W C (j := j) (by have := HCN.out; omega), ← HZ.out, ofT_keyT]
              go_wp2
              go_ret
              exact ⟨by rw [← HE.out]; rfl, HB.out⟩
            case pos =>
              have hjc : j < C.length := by have := HCN.out; omega
              obtain ⟨b, o, e1, r1⟩ : ∃ b o, cb = some ⟨b, o, none⟩ ∧ Run w b o (insCells C) := by
                rcases HD.out.cd.run with h | h
                · omega
                · exact h
              subst e1
              have hbw : b < w.heap.size := r1.lt (by rw [insCells_length]; omega)
              obtain ⟨c0, c1, c2, c3, c4⟩ := Codes.cells (r1.below HB.out hbw) hjc
              obtain ⟨k, hk, hk1, hk9, ha, hb, hn, hjl⟩ := right_write HRD.out hjc
              have HNX := hid (front2_next R W C hjc)
              have HL21 := hid (ins_len HRD.out.r HRD.out.w (by have := HRD.out.c; omega) (HRD.out.i j hjc))
              have hi : (j : Int) < (cn : Int) := by omega
              have hbr : b < wr.heap.size := by have := HB.out.size; omega
              generalize C.getD j default = i at *
              have HWF := hid (words_form hk hk1 hk9)
              have HFS : Hid (∀ c ∈ keyT (form k), (wordOf i c).size ≤ 21) := fun c hc => fill_small HWF.out HL21.out hc
              clear HL21
              rw [hk] at c0
              have HI := hid (five_new wr i 101)
              have HBI := hid (below_deep HB.out (grew wr (.cells #[.int .i64 i.kind, .int .i64 i.a, .int .i64 i.b, .int .i64 i.n, .string i.key] 101)))
              rw [hk] at HI HBI
              go_wp2
              have ckind := HI.out.c0
              rw [hk] at ckind
              have hks : (word k).length ≤ 5 := word_len k
              have hkz : (ofT (word k)).size ≤ 5 := by rw [ofT_size]; exact hks
              have hk10 : (k : Int) < 10 := by omega
              have HCW : Hid (∀ w3, Pieces (wr.alloc (.cells #[.int .i64 (k : Int), .int .i64 i.a, .int .i64 i.b, .int .i64 i.n, .string i.key] 101)).drew w3 wordsL → w3.cell? ⟨wr.heap.size + 1, k, none⟩ = some (.string (ofT (word k)))) := fun w3 hp => by
                have := word_cell hp (k := k) (by omega)
                have e : (wr.alloc (.cells #[.int .i64 (k : Int), .int .i64 i.a, .int .i64 i.b, .int .i64 i.n, .string i.key] 101)).drew.heap.size = wr.heap.size + 1 := World.size_alloc _ _
                rwa [e] at this
              have HSW : Hid ((wr.alloc (.cells #[.int .i64 (k : Int), .int .i64 i.a, .int .i64 i.b, .int .i64 i.n, .string i.key] 101)).drew.cell? ⟨wr.heap.size, 0, none⟩ = some (.int .i64 k) ∧ Below w.heap.size w (wr.alloc (.cells #[.int .i64 (k : Int), .int .i64 i.a, .int .i64 i.b, .int .i64 i.n, .string i.key] 101)).drew) := ⟨ckind, HBI.out.drew⟩
              have hq1 : ¬ 9223372036854775807 < Z.size + 2 := by omega
              have hq2 : ¬ 9223372036854775807 < Z.size + 2 + (ofT (word k)).size := by omega
              have hq3 : ¬ 9223372036854775807 < (Z ++ ⟨#[59, 32]⟩).size + (ofT (word k)).size := by
                rw [size_append]
                have : (⟨#[59, 32]⟩ : ByteArray).size = 2 := rfl
                omega
              go_region_with (go_at_call 78; refine (words_calls _).mono ?_; rintro e w3 ⟨rfl, hp3⟩; have cw := HCW.out w3 hp3; have ck := kept_cell (hp3.below) ckind)
              all_goals
                have HB3 := hid (below_deep HBI.out.drew hp3.below)
                have HI3 := hid (HI.out.below (below_deep (Below.refl _ _).drew hp3.below))
                have ck3 := HI3.out.c0
                rw [hk] at ck3
                have HFC := hid (form_calls k w3 hk1 hk9)
                have HLET := hid (form_letters hk1 hk9)
                have HZ3 : Hid (keyT (Z ++ ⟨#[59, 32]⟩ ++ ofT (word k)) = front2 R W C j ++ 59 :: 32 :: word k) := by
                  show _ = _
                  rw [keyT_append, keyT_append, HZ.out, keyT_ofT, List.append_assoc]; rfl
                have hZ3 : (Z ++ ⟨#[59, 32]⟩ ++ ofT (word k)).size ≤ 107 + 60 * j := by
                  rw [size_append, size_append]
                  have : (⟨#[59, 32]⟩ : ByteArray).size = 2 := rfl
                  omega
                clear hp3 cw ck hq1 hq2 hq3 ckind HCW HSW hkz hks
                go_wp2_with fail
                refine HFC.out.mono ?_
                rintro e w4 ⟨rfl, hb4⟩
                have HB4 := hid (below_deep HB3.out hb4)
                have HI4 := hid (HI3.out.below hb4)
                generalize Z ++ ⟨#[59, 32]⟩ ++ ofT (word k) = Y at *
                clear hb4
                have hF2 : (form k).size ≤ 2 := by have := HLET.out.1; rwa [keyT_len] at this
                have HNJ : Hid (front2 R W C (j + 1) = front2 R W C j ++ 59 :: 32 :: (word k ++ tail1 ((keyT (form k)).map fun c => fillP i (placeOf c)))) := by
                  show _ = _
                  rw [HNX.out, HWF.out]
                have HGW := hid (HG.out.below HB4.out)
                clear HNX HWF HFC
                generalize form k = F at *
                generalize wr = wa at *
                go_wp2
                go_loopw [3] (fun z wr => ∃ (pos : Nat) (Z : ByteArray), pos ≤ F.size ∧ Z.size ≤ 107 + 60 * j + 23 * pos ∧ z = .string Z ∧ Hid (wr.heap[w4.heap.size]? = some (.stringIter F pos)) ∧ Hid (Below w4.heap.size w4 wr) ∧ Hid (keyT Z = front2 R W C j ++ 59 :: 32 :: (word k ++ tail1 (((keyT F).take pos).map fun c => fillP i (placeOf c))))) (fun _ wr => F.size - wr.iterPos w4.heap.size)
                case atStart =>
                  refine ⟨0, Y, Nat.zero_le _, by omega, rfl, ?_, ?_, ?_⟩
                  · exact World.iter_heap _ _ _
                  · exact grew _ _
                  · show _ = _
                    rw [HZ3.out]
                    simp [tail1]
                case round =>
                  obtain ⟨pos, Z5, hpos, hZ5, rfl, HIT, HB5, HK5⟩ := hrel
                  by_cases hlt5 : pos < F.size
                  case neg =>
                    obtain rfl : pos = F.size := by omega
                    have hnext := fun ty => Lib.run_next_end_at (P := Tryz.prog) wr w4.heap.size F F.size ty HIT.out (by omega)
                    have HKE : Hid (keyT Z5 = front2 R W C (j + 1)) := by
                      show _ = _
                      rw [HK5.out, HNJ.out, List.take_of_length_le (by rw [keyT_len]; exact Nat.le_refl _)]
                    go_wp2
                    go_roundw
                    case rel => exact ⟨j + 1, Z5, by omega, by omega, by go_num, rfl, HKE, below_deep HB4.out HB5.out⟩
                    case measure => simp [intOf]; omega
                  case pos =>
                    have hlet := HLET.out.2 F[pos] (by
                      have hl : pos < (keyT F).length := by rw [keyT_len]; exact hlt5
                      exact List.getElem_mem hl)
                    have hasc : F[pos].toNat < 128 := by rcases hlet with e | e | e | e <;> rw [e] <;> decide
                    have hnext := fun ty => Lib.run_next_ascii_at (P := Tryz.prog) wr w4.heap.size F pos ty HIT.out hlt5 hasc
                    have HB6 := hid (Lib.below_iterAt HB5.out (Nat.le_refl _) F (pos + 1))
                    have HIT6 := hid (Lib.iterAt_heap wr w4.heap.size F pos (pos + 1) HIT.out)
                    have HKN : Hid (((keyT F).take (pos + 1)).map (fun c => fillP i (placeOf c)) = ((keyT F).take pos).map (fun c => fillP i (placeOf c)) ++ [fillP i (placeOf F[pos])]) := by
                      show _ = _
                      have hl : pos < (keyT F).length := by rw [keyT_len]; exact hlt5
                      rw [List.take_succ_eq_append_getElem hl, List.map_append]; rfl
                    go_wp2
                    generalize wr.iterAt w4.heap.size F (pos + 1) = wx at *
                    have hv21 := HFS.out F[pos] (by
                      have hl : pos < (keyT F).length := by rw [keyT_len]; exact hlt5
                      exact List.getElem_mem hl)
                    refine word_region (isP_of (by rfl) ?hi (by kernel_rfl)) 20 (HI4.out.below HB6.out) (HGW.out.below HB6.out) ha hb hn rfl rfl rfl (Nat.le_of_ble_eq_true rfl) (by omega) (by omega) hlet ?fin
                    case hi =>
                      intro j hj
                      have hcase : j = 0 ∨ j = 1 ∨ j = 2 ∨ j = 3 ∨ j = 4 ∨ j = 5 ∨ j = 6 ∨ j = 7 ∨ j = 8 ∨ j = 9 ∨ j = 10 ∨ j = 11 ∨ j = 12 ∨ j = 13 ∨ j = 14 ∨ j = 15 ∨ j = 16 ∨ j = 17 ∨ j = 18 ∨ j = 19 ∨ j = 20 ∨ j = 21 ∨ j = 22 ∨ j = 23 ∨ j = 24 := by omega
                      rcases hcase with rfl | rfl | rfl | rfl | rfl | rfl | rfl | rfl | rfl | rfl | rfl | rfl | rfl | rfl | rfl | rfl | rfl | rfl | rfl | rfl | rfl | rfl | rfl | rfl | rfl <;> exact ⟨_, rfl, rfl, rfl, rfl⟩
                    case fin =>
                      intro m w' hbw
                      have HZ6 : Hid (keyT (Z5 ++ ⟨#[32]⟩ ++ wordOf i F[pos]) = front2 R W C j ++ 59 :: 32 :: (word k ++ tail1 (((keyT F).take (pos + 1)).map fun c => fillP i (placeOf c)))) := by
                        show _ = _
                        rw [keyT_append, keyT_append, HK5.out, HKN.out, tail1_snoc]
                        unfold wordOf
                        rw [keyT_ofT]
                        simp [keyT]
                      have hZ6 : (Z5 ++ ⟨#[32]⟩ ++ wordOf i F[pos]).size ≤ 107 + 60 * j + 23 * (pos + 1) := by
                        rw [size_append, size_append]
                        have : (⟨#[32]⟩ : ByteArray).size = 1 := rfl
                        omega
                      have HIT7 : Hid (w'.heap[w4.heap.size]? = some (.stringIter F (pos + 1))) := by
                        show _ = _
                        rw [hbw.block _ (by have := (Array.getElem?_eq_some_iff.1 HIT6.out).1; exact this)]
                        exact HIT6.out
                      have HB7 := hid (below_deep HB6.out hbw)
                      simp only [putAll, lastP, Act.put, List.setIfInBounds_toArray, List.set_cons_zero, List.set_cons_succ, valP]
                      generalize Z5 ++ ⟨#[32]⟩ ++ wordOf i F[pos] = Z6 at *
                      go_wp2
                      go_roundw
                      case rel => exact ⟨pos + 1, Z6, by omega, hZ6, rfl, HIT7, HB7, HZ6⟩
                      case measure => simp [World.iterPos, HIT.out, HIT7.out]; omega
end Go.Proofs.YthmkgfdglkdjmadGreatDoor
