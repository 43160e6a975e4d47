/-
  The document's Bytes of a right entry, walked.
-/
import Derived.Test.YthmkgfdglkdjmadGreatDoorLogSum
import Derived.Test.YthmkgfdglkdjmadGreatDoorEntIn
import Derived.Test.YthmkgfdglkdjmadGreatDoorRefPrint
namespace Go.Proofs.YthmkgfdglkdjmadGreatDoor
open Go.RowKit

theorem Spare.below {w w' : World} {b n c : Nat} (h : Spare w b n c) (hb : Below w.heap.size w w') : Spare w' b n c := fun j h1 h2 => by
  obtain ⟨h3, h4⟩ := h j h1 h2
  obtain ⟨v, hv⟩ := Option.isSome_iff_exists.1 h3
  have hlt := World.block_lt_of_cell? _ _ hv
  exact ⟨by rw [kept_cell hb hv]; rfl, kept_free hb ⟨hlt, h4⟩⟩
theorem unlines_snoc (l : List T) (x : T) : unlines (l ++ [x]) = unlines l ++ (x ++ [10]) := by simp [unlines]
theorem data_next {m : Int} {D : List Deed3} {j : Nat} (h : j < D.length) : dataE (m, D.take (j + 1)) = dataE (m, D.take j) ++ printD (D.getD j default) ++ [10] := by
  unfold dataE
  rw [take_snoc_getD h, List.map_append, List.map_cons, List.map_nil, unlines_snoc]
  simp
/-- What a slice of bytes is told to be, that the call has made. -/
def BytesTold (w w' : World) (l : T) (x : Ending) : Prop := ∃ b n c, x = .returned (.slice (some ⟨b, 0, none⟩) n c) ∧ w.heap.size ≤ b ∧ BytesIn w' (some ⟨b, 0, none⟩) n c l ∧ Below w.heap.size w w'
theorem bytes_two (w : World) (x y : UInt8) : BytesIn (w.alloc (.cells #[.int .u8 (x.toNat : Int), .int .u8 (y.toNat : Int)] 5)) (some ⟨w.heap.size, 0, none⟩) 2 2 [x, y] := by
  refine ⟨rfl, ⟨Nat.le_refl _, by unfold maxLen; omega, fun h => by cases h⟩, .inr ⟨_, _, rfl, fun j u hu => ?_⟩⟩
  rw [Nat.zero_add]
  exact box_cell _ _ _ _ _ (by simpa [bytesC] using hu)
theorem bytes_sum (w : World) {t : Nat} (h : t < 65521) : BytesIn (w.alloc (.cells #[.int .u8 ((t : Int) / 256), .int .u8 ((t : Int) % 256)] 5)) (some ⟨w.heap.size, 0, none⟩) 2 2 (sumB t) := by
  have h0 := bytes_two w (UInt8.ofNat (t / 256)) (UInt8.ofNat (t % 256))
  rw [ofNat_small (by omega), ofNat_small (by omega)] at h0
  exact h0
theorem byteInfo : (Tryz.prog.info? 5).map (fun i => (i.zero, i.size, i.bytes)) = some (some (.int .u8 0), 1, 1) := by kernel_rfl
theorem bytes_oneB (w : World) (x : UInt8) : BytesIn (w.alloc (.cells #[.int .u8 (x.toNat : Int)] 5)) (some ⟨w.heap.size, 0, none⟩) 1 1 [x] := by
  refine ⟨rfl, ⟨Nat.le_refl _, by unfold maxLen; omega, fun h => by cases h⟩, .inr ⟨_, _, rfl, fun j u hu => ?_⟩⟩
  rw [Nat.zero_add]
  exact box_cell _ _ _ _ _ (by simpa [bytesC] using hu)

set_option maxHeartbeats 8000000 in
set_option maxRecDepth 100000 in
theorem refBytes_calls (x : Ent) (v : Value) (w : World) (hG : Ground w) (hv : EntV w v x) (hr : RightEnt x) :
    Calls Tryz.prog 27 #[v] w fun e w' => BytesTold w w' (bytesE x) e := by
  obtain ⟨db, dn, dc, rfl, hd⟩ := hv
  obtain ⟨m, D⟩ := x
  obtain ⟨hm0, hm1, hl6, hri⟩ := hr
  simp only at hd hm0 hm1 hl6 hri ⊢
  have HLN := hid hd.len
  have hdn : dn ≤ 6 := by rw [hd.len]; exact hl6
  have HRI : Hid (∀ i, i < dn → RightDD (D.getD i default)) := fun i hi => rights_at hri (by rw [hd.len] at hi; exact hi)
  have HB0 := hid (grew w (.cells #[.int .i64 m, .slice db dn dc] 61))
  obtain ⟨q, rfl⟩ : ∃ q : Nat, m = q := ⟨m.toNat, by omega⟩
  have hq : q ≤ 11 := by omega
  have hqt : (UInt8.ofNat q).toNat = q := by rw [UInt8.toNat_ofNat']; omega
  have x0 : (w.alloc (.cells #[.int .i64 (q : Int), .slice db dn dc] 61)).cell? ⟨w.heap.size, 0, none⟩ = some (.int .i64 (q : Int)) := box_cell w _ _ 0 _ rfl
  have x1 : (w.alloc (.cells #[.int .i64 (q : Int), .slice db dn dc] 61)).cell? ⟨w.heap.size, 1, none⟩ = some (.slice db dn dc) := box_cell w _ _ 1 _ rfl
  have HD := hid (hd.below HB0.out)
  have HG := hid (hG.below HB0.out)
  clear hd hG hri
  go_enter Tryz.func27, Tryz.ntmps27
  go_upto_region 1 with fail
  generalize w.alloc (.cells #[.int .i64 (q : Int), .slice db dn dc] 61) = A at *
  have hb1 := bytes_oneB A (UInt8.ofNat q)
  rw [hqt] at hb1
  have hconv := bytes_text hb1 63 9 5 Tryz.underlying63 Tryz.underlying5 Tryz.underlying9
  have z1 := box_past (.cells #[.int .u8 (q : Int)] 5) x1
  have HGA := hid (grew A (.cells #[.int .u8 (q : Int)] 5))
  have HD1 := hid (HD.out.below HGA.out)
  have HG1 := hid (HG.out.below HGA.out)
  have HB1 := hid (below_deep HB0.out HGA.out)
  clear hb1 HD HG HGA HB0
  go_wp2
  clear hconv z1 x0 x1
  generalize A.alloc (.cells #[.int .u8 (q : Int)] 5) = A1 at *
  go_loopw [3, 15] (fun z c wr => ∃ (j : Nat) (Z : ByteArray), j ≤ dn ∧ Z.size ≤ 1 + 401 * j ∧ c = .int .i64 j ∧ z = .string Z ∧ Hid (keyT Z = dataE ((q : Int), D.take j)) ∧ Hid (Below A1.heap.size A1 wr)) (fun _ c _ => dn - (intOf c).toNat)
  case atStart => exact ⟨0, ofT [UInt8.ofNat q], Nat.zero_le _, Nat.le_refl _, rfl, rfl, by show _ = _; rw [keyT_ofT]; rfl, Below.refl _ _⟩
  case round =>
    obtain ⟨j, Z, hj, hZ, rfl, rfl, HZ, HBR⟩ := hrel
    by_cases hlt : j < dn
    · have hjl : j < D.length := by rw [← HLN.out]; exact hlt
      have hi : (j : Int) < (dn : Int) := by omega
      rcases (HD1.out.below HBR.out).run with h | ⟨db1, dbo, rfl, hdr⟩
      · omega
      obtain ⟨rb, rn, rc, wb, wn, wc, cb, cn, cc, k0, k1, k2, hdi, hs1, hs2⟩ := hdr j hlt
      have hdb : db1 < wr.heap.size := by simpa using World.block_lt_of_cell? _ _ k0
      have HGW := hid (grew wr (.cells #[.slice rb rn rc, .slice wb wn wc, .slice cb cn cc] 75))
      have HRD := hid (HRI.out j hlt)
      have HW := hid (refPrint_calls (D.getD j default).1 (D.getD j default).2.1 (D.getD j default).2.2 rb rn rc wb wn wc cb cn cc _ ((HG1.out.below HBR.out).below HGW.out) (hdi.below HGW.out) (right_wDeed HRD.out))
      have HNX := hid (data_next (m := (q : Int)) hjl)
      have hpl := print_len HRD.out
      have hps : (ofT (printT (D.getD j default).1 (D.getD j default).2.1 (D.getD j default).2.2)).size ≤ 400 := by rw [ofT_size]; exact hpl
      have HPK : Hid (keyT (ofT (printT (D.getD j default).1 (D.getD j default).2.1 (D.getD j default).2.2)) = printD (D.getD j default)) := by show _ = _; rw [keyT_ofT]; rfl
      clear hdi hs1 hs2 hdr hpl
      generalize ofT (printT (D.getD j default).1 (D.getD j default).2.1 (D.getD j default).2.2) = P at *
      generalize D.getD j default = d at *
      have hq1 : ¬ 9223372036854775807 < Z.size + P.size := by omega
      go_wp2_with fail
      refine HW.out.mono ?_
      rintro e w2 ⟨rfl, hb2⟩
      have HB2 := hid (below_deep HBR.out (below_deep HGW.out hb2))
      clear hb2 HW k0 k1 k2
      have hq2 : ¬ 9223372036854775807 < (Z ++ P).size + 1 := by rw [size_append]; omega
      go_wp2
      go_roundw
      case rel =>
        refine ⟨j + 1, Z ++ P ++ ⟨#[10]⟩, by omega, ?_, by go_num, rfl, ?_, HB2⟩
        · rw [size_append, size_append]
          have : (⟨#[10]⟩ : ByteArray).size = 1 := rfl
          omega
        · show _ = _
          rw [keyT_append, keyT_append, HZ.out, HPK.out, HNX.out]; rfl
      case measure => simp [intOf]; omega
    · obtain rfl : j = dn := by omega
      have HZD : Hid (keyT Z = dataE ((q : Int), D)) := by
        have := HZ.out
        rw [HLN.out, List.take_length] at this
        exact this
      have hZs : Z.size ≤ 4000 := by omega
      obtain ⟨c1, w1, hc1, hn1⟩ := text_bytes wr 9 63 5 Z Tryz.underlying9 Tryz.underlying63 Tryz.underlying5 (by unfold maxLen; omega)
      obtain ⟨c2, w2, hc2, hn2⟩ := text_bytes w1 9 63 5 Z Tryz.underlying9 Tryz.underlying63 Tryz.underlying5 (by unfold maxLen; omega)
      have HS := hid (refSum_calls (keyT Z) _ _ _ w1 hn1.here)
      have HN1 := hid hn1
      have HN2 := hid hn2
      clear hn1 hn2
      have hsl := sumT_lt (keyT Z)
      have HBE : Hid (bytesE ((q : Int), D) = keyT Z ++ sumB (sumT (keyT Z))) := by show _ = _; rw [HZD.out]; rfl
      clear HZ HZD
      generalize sumT (keyT Z) = t at *
      go_wp2_with fail
      refine HS.out.mono ?_
      rintro e w3 ⟨rfl, rfl⟩
      have HW1 := hid (below_deep HB1.out (below_deep HBR.out (below_deep HN1.out.bel HN2.out.bel)))
      have HGS := hid (grew w2 (.cells #[.int .u8 ((t : Int) / 256), .int .u8 ((t : Int) % 256)] 5))
      have HWS := hid (below_deep HW1.out HGS.out)
      have HBS := hid (bytes_sum w2 hsl)
      have HLZ := hid (HN2.out.here.below (by decide) HGS.out)
      have HSP := hid (HN2.out.room.below HGS.out)
      have HO2 := hid (Nat.le_trans (below_deep HB1.out (below_deep HBR.out HN1.out.bel)).size HN2.out.old)
      go_wp2_with (at_builtin; refine wpList_bytes_on _ rfl _ _ 63 5 Tryz.underlying63 byteInfo rfl w.heap.size w HWS.out _ _ _ (keyT Z) rfl HO2.out HLZ.out HSP.out _ 2 2 _ rfl HBS.out (by decide) (by omega) HWS.out.size ?_)
      intro b' c' w5 hb' hbi hbl
      have HF := hid (And.intro hb' (And.intro hbi hbl))
      clear hb' hbi hbl
      go_wp2
      go_ret
      exact ⟨_, _, _, rfl, HF.out.1, by rw [HBE.out]; exact HF.out.2.1, HF.out.2.2⟩
end Go.Proofs.YthmkgfdglkdjmadGreatDoor
