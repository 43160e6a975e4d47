/-
  The document's cut of a text at a text, its numbers, and its words.
  The document's letters of an instruction are the places of its words.
-/
import Derived.Test.YthmkgfdglkdjmaeGreatDoorTextParts
import Derived.Test.YthmkgfdglkdjmaeGreatDoorTextFill
import Derived.Test.YthmkgfdglkdjmaeGreatDoorDeedEq
namespace Go.Proofs.YthmkgfdglkdjmaeGreatDoor
open Go.RowKit

theorem extract_ofT (s : ByteArray) (a b : Nat) : s.extract a b = ofT (((keyT s).take b).drop a) := by
  apply keyT_eq
  rw [keyT_ofT]
  show (s.extract a b).data.toList = _
  rw [Lib.extract_data, List.drop_take]
  rfl
theorem extract_rest (s : ByteArray) (a : Nat) : s.extract a s.size = ofT ((keyT s).drop a) := by
  rw [extract_ofT, List.take_of_length_le (by rw [keyT_len]; exact Nat.le_refl _)]

theorem piece_eq {sep : T} {at' s : ByteArray} (hat : keyT at' = sep) (i : Nat) : ((s.extract i (i + at'.size)).toList == at'.toList) = decide (((keyT s).drop i).take sep.length = sep) := by
  have e1 : s.extract i (i + at'.size) = ofT (((keyT s).drop i).take sep.length) := by
    rw [extract_ofT, List.drop_take, ← hat, keyT_len, Nat.add_sub_cancel_left]
  have e2 : at' = ofT sep := by rw [← hat, ofT_keyT]
  rw [e1]
  conv => lhs; rw [e2]
  exact text_same _ _

set_option maxRecDepth 100000 in
set_option maxHeartbeats 4000000 in
theorem refSplit_calls {sep : T} {spl : T → T → List T} (hc : Cuts sep spl) (at' s : ByteArray) (w : World) (hat : keyT at' = sep) (hs : s.size ≤ 100000) (hz : at'.size ≤ 10) :
    Calls Tryz.prog 37 #[.string s, .string at'] w fun e w' => ∃ b o c, e = .returned (.slice (some ⟨b, o, none⟩) (spl [] (keyT s)).length c) ∧ Texts w' (some ⟨b, o, none⟩) (spl [] (keyT s)).length c ((spl [] (keyT s)).map ofT) ∧ Below w.heap.size w w' ∧ w.heap.size ≤ b := by
  have hlen := keyT_len s
  have hsl : sep.length = at'.size := by rw [← hat, keyT_len]
  have hp := hc.pos
  have HC := hid hc
  have HAT := hid hat
  have HLEN := hid hlen
  have HSL := hid hsl
  have hz1 : 1 ≤ at'.size := by omega
  obtain ⟨S, hS⟩ : ∃ S, S = keyT s := ⟨_, rfl⟩
  rw [← hS] at HLEN ⊢
  have HS := hid hS
  clear hc hat hlen hsl hp hS
  go_enter Tryz.func37, Tryz.ntmps37
  go_wp2
  go_loopw [5, 6, 7] (fun v f c wr => ∃ (fr i n : Nat) (L : List T), fr ≤ i ∧ i ≤ s.size ∧ n ≤ i ∧ f = .int .i64 fr ∧ c = .int .i64 i ∧ Hid (spl [] S = L ++ spl ((S.take i).drop fr) (S.drop i)) ∧ Hid (L.length = n) ∧ Hid (wr.ownsRow w.heap.size 9 1 v n (strs (L.map ofT))) ∧ Hid (Below w.heap.size w wr)) (fun _ _ c _ => s.size + 1 - (intOf c).toNat)
  case atStart => exact ⟨0, 0, 0, [], Nat.le_refl _, Nat.zero_le _, Nat.le_refl _, rfl, rfl, (by show _ = _; simp), rfl, World.ownsRow_nil _ _ _ _, Below.refl _ _⟩
  case round =>
    obtain ⟨fr, i, n, L, hfi, his, hni, rfl, rfl, HQ, HLN, HO, HB⟩ := hrel
    by_cases hlt : i + at'.size ≤ s.size
    case neg =>
      have HE := hid (HC.out.at_end (s := S) (k := fr) (i := i) hfi (by rw [HLEN.out]; exact his) (by rw [HLEN.out, HSL.out]; omega))
      have hgt : ¬ ((i : Int) + (at'.size : Int) ≤ (s.size : Int)) := by omega
      have HPC := hid (extract_rest s fr)
      have HOX := hid (HO.out.alloc (.cells #[.string (s.extract fr s.size)] 9))
      have HCX := hid (lies_one wr #[.string (s.extract fr s.size)] 9 1 rfl)
      have HLT := hid HOX.out.lt
      have B1 : Hid ((n + 1) * 16 ≤ 140737488355328) := by show _ ≤ _; omega
      have HFIN : Hid (spl [] S = L ++ [S.drop fr]) := by show _ = _; rw [HQ.out, HE.out]
      go_wp2_with (at_builtin; refine wpList_onto _ rfl _ _ 36 9 1 16 _ Tryz.underlying36 strInfo rfl (by decide) (by decide) rfl w.heap.size _ n _ rfl HOX.out _ 1 _ _ rfl HCX.out (strs_one [s.extract fr s.size]) B1.out (le_box HB.out.size) ?_)
      intro v1 w5 hown hg
      have HB5 := hid (HB.out.trans ((((Below.refl w.heap.size _).alloc HB.out.size (.cells #[.string (s.extract fr s.size)] 9))).grown hg (le_box HB.out.size) (fun y hy => (HLT.out y hy).1)))
      obtain ⟨b1, c1, rfl, hl1⟩ := Lies.owned hown
      have hfr := owns_fresh hown
      rcases hl1.run with h0 | ⟨bb, oo, rfl, hr⟩
      · omega
      have HF := hid hl1
      have HBB : Hid (w.heap.size ≤ bb) := hfr _ rfl
      clear hown hg hl1 hr hfr
      go_wp2
      go_ret
      have e1 : (spl [] S).length = n + 1 := by rw [HFIN.out, List.length_append, HLN.out]; rfl
      refine ⟨bb, oo, c1, by rw [e1]; rfl, ?_, HB5.out, HBB.out⟩
      show Lies _ _ _ _ _ (strs _)
      rw [e1, HFIN.out, List.map_append, strs_append, List.map_cons, List.map_nil, HS.out, ← HPC.out]
      exact HF.out
    case pos =>
      have hle : (i : Int) + (at'.size : Int) ≤ (s.size : Int) := by omega
      have hcmp := piece_eq (s := s) HAT.out i
      rw [← HS.out] at hcmp
      by_cases hh : (S.drop i).take sep.length = sep
      case pos =>
        have HE := hid (HC.out.at_hit (k := fr) hh)
        rw [decide_eq_true hh] at hcmp
        have HPC := hid (extract_ofT s fr i)
        have HOX := hid (HO.out.alloc (.cells #[.string (s.extract fr i)] 9))
        have HCX := hid (lies_one wr #[.string (s.extract fr i)] 9 1 rfl)
        have HLT := hid HOX.out.lt
        have B1 : Hid ((n + 1) * 16 ≤ 140737488355328) := by show _ ≤ _; omega
        clear hh
        go_wp2_with (at_builtin; refine wpList_onto _ rfl _ _ 36 9 1 16 _ Tryz.underlying36 strInfo rfl (by decide) (by decide) rfl w.heap.size _ n _ rfl HOX.out _ 1 _ _ rfl HCX.out (strs_one [s.extract fr i]) B1.out (le_box HB.out.size) ?_)
        intro v1 w5 hown hg
        have HB5 := hid (HB.out.trans ((((Below.refl w.heap.size _).alloc HB.out.size (.cells #[.string (s.extract fr i)] 9))).grown hg (le_box HB.out.size) (fun y hy => (HLT.out y hy).1)))
        have HO5 := hid hown
        clear hown hg
        go_wp2
        go_roundw
        case rel =>
          refine ⟨i + at'.size, i + at'.size, n + 1, L ++ [(S.take i).drop fr], Nat.le_refl _, by omega, by omega, by go_num, by go_num, ?_, ?_, ?_, HB5.out⟩
          · show _ = _
            rw [HQ.out, HE.out, HSL.out, List.append_assoc]
            have : (S.take (i + at'.size)).drop (i + at'.size) = [] := List.drop_of_length_le (by rw [List.length_take]; exact Nat.min_le_left _ _)
            rw [this]; rfl
          · show _ = _
            rw [List.length_append, HLN.out]; rfl
          · show World.ownsRow _ _ _ _ _ _ _
            rw [List.map_append, strs_append, List.map_cons, List.map_nil, HS.out, ← HPC.out]
            exact HO5.out
        case measure => simp [intOf]; omega
      case neg =>
        have HE := hid (HC.out.at_miss (k := fr) hfi (by rw [HLEN.out, HSL.out]; exact hlt) hh)
        rw [decide_eq_false hh] at hcmp
        clear hh
        go_wp2
        go_roundw
        case rel => exact ⟨fr, i + 1, n, L, by omega, by omega, by omega, rfl, by go_num, (by show _ = _; rw [HQ.out, HE.out]), HLN, HO, HB⟩
        case measure => simp [intOf]; omega

set_option maxHeartbeats 1000000 in
theorem refNum_calls (s : ByteArray) (w : World) (hG : GroundN w) (hs : s.size ≤ 100000) :
    Calls Tryz.prog 40 #[.string s] w fun e w' => Told (numOf (keyT s)) e ∧ Below w.heap.size w w' := by
  have HA := hid (atoi_calls s w hG hs)
  have HG := hid hG
  clear hG
  generalize hq : numOf (keyT s) = q
  have HQ := hid hq
  clear hq
  go_enter Tryz.func40, Tryz.ntmps40
  go_wp2_with fail
  refine HA.out.mono ?_
  rintro e w1 ⟨⟨v, hv, rfl⟩ | ⟨v, t, p, hv, rfl⟩, hb⟩
  · have hbd := Lib.atoiAll_bounds hv
    have HI := hid (itoa_calls v w1 (HG.out.below hb) hbd.1 hbd.2)
    have HV := hid (told_ok hv)
    have HB := hid hb
    clear hv hb hbd
    by_cases hE : Lib.itoa v = keyT s
    · have hst := streq_true (itoa_eq hE)
      have HN := hid (HQ.out.symm.trans (HV.out.1 hE))
      clear hE
      generalize ofT (Lib.itoa v) = z at *
      go_wp2_with fail
      refine HI.out.mono ?_
      rintro e w2 ⟨rfl, hb2⟩
      have HB2 := hid hb2
      clear hb2
      go_wp2
      go_ret2
      refine ⟨⟨v, by rw [HN.out]; rfl, fun u hu => ?_⟩, below_deep HB.out HB2.out⟩
      rw [HN.out] at hu; exact Option.some.inj hu
    · have hst := streq_false (itoa_ne hE)
      have HN := hid (HQ.out.symm.trans (HV.out.2 hE))
      clear hE
      generalize ofT (Lib.itoa v) = z at *
      go_wp2_with fail
      refine HI.out.mono ?_
      rintro e w2 ⟨rfl, hb2⟩
      have HB2 := hid hb2
      clear hb2
      go_wp2
      go_ret2
      refine ⟨⟨v, by rw [HN.out]; rfl, fun u hu => ?_⟩, below_deep HB.out HB2.out⟩
      rw [HN.out] at hu; cases hu
  · have HN := hid (HQ.out.symm.trans (told_no hv))
    have HB := hid hb
    clear hv hb
    go_wp2
    go_ret2
    refine ⟨⟨v, by rw [HN.out]; rfl, fun u hu => ?_⟩, HB.out⟩
    rw [HN.out] at hu; cases hu

/-- The document's words of instructions. -/
def wordsL : List ByteArray := [⟨#[]⟩, ⟨#[108, 111, 97, 100]⟩, ⟨#[99, 111, 110, 115, 116]⟩, ⟨#[97, 100, 100]⟩, ⟨#[115, 117, 98]⟩, ⟨#[109, 117, 108]⟩, ⟨#[115, 116, 111, 114, 101]⟩, ⟨#[100, 114, 111, 112]⟩, ⟨#[115, 107, 105, 112]⟩, ⟨#[102, 97, 105, 108]⟩]
theorem wordsL_at {k : Nat} (h : k < 10) : wordsL.getD k default = ofT (word k) := by
  have : k = 0 ∨ k = 1 ∨ k = 2 ∨ k = 3 ∨ k = 4 ∨ k = 5 ∨ k = 6 ∨ k = 7 ∨ k = 8 ∨ k = 9 := by omega
  rcases this with rfl | rfl | rfl | rfl | rfl | rfl | rfl | rfl | rfl | rfl <;> rfl
theorem words_calls (w : World) : Calls Tryz.prog 38 #[] w fun e w' => e = .returned (.slice (some ⟨w.heap.size, 0, none⟩) 10 10) ∧ Pieces w w' wordsL := by
  go_enter Tryz.func38, Tryz.ntmps38
  go_wp2
  go_ret
  exact ⟨rfl, ⟨rfl⟩⟩
theorem word_cell {w w' : World} (h : Pieces w w' wordsL) {k : Nat} (hk : k < 10) : w'.cell? ⟨w.heap.size, k, none⟩ = some (.string (ofT (word k))) := by
  have := pieces_cell h (j := k) hk
  rwa [wordsL_at hk] at this
theorem no_results (tmps : Array Value) (b : Nat) (w : World) {e : Int} (h2 : tmps.getD 2 undef = .pointer (some ⟨b, 0, none⟩)) (h3 : tmps.getD 3 undef = .int .i64 e) (h : w.cell? ⟨b, 0, none⟩ = some (.slice none 0 0) ∧ w.cell? ⟨b, 1, none⟩ = some (.slice none 0 0) ∧ w.cell? ⟨b, 2, none⟩ = some (.slice none 0 0)) :
    (results Tryz.f36 tmps).run Tryz.prog w = .ok (.tuple #[.agg #[.slice none 0 0, .slice none 0 0, .slice none 0 0], .int .i64 e]) w := by
  have h2' : tmps[2]?.getD undef = .pointer (some ⟨b, 0, none⟩) := by simpa using h2
  have h3' : tmps[3]?.getD undef = .int .i64 e := by simpa using h3
  simp [results, Tryz.results36, go_sem, h2', h3', h.1, h.2.1, h.2.2]
/-- The document's no. -/
theorem refNo_calls (e : Int) (w : World) : Calls Tryz.prog 36 #[.int .i64 e] w fun x w' => x = .returned (.tuple #[.agg #[.slice none 0 0, .slice none 0 0, .slice none 0 0], .int .i64 e]) ∧ Below w.heap.size w w' := by
  go_enter Tryz.func36, Tryz.ntmps36
  go_wp2
  refine bodyPost_ret (no_results _ w.heap.size _ rfl rfl ⟨box_cell _ _ _ _ _ rfl, box_cell _ _ _ _ _ rfl, box_cell _ _ _ _ _ rfl⟩) rfl ?_
  exact ⟨rfl, grew _ _⟩
end Go.Proofs.YthmkgfdglkdjmaeGreatDoor

namespace Go.Proofs.YthmkgfdglkdjmaeGreatDoor
open Go.Lib

def placeOf (c : UInt8) : T := if c = 114 then pA else if c = 115 then pB else if c = 110 then pN else pK
theorem places_form {k : Nat} (h1 : 1 ≤ k) (h9 : k ≤ 9) : placesT k = word k :: (keyT (form k)).map placeOf := by
  have : k = 1 ∨ k = 2 ∨ k = 3 ∨ k = 4 ∨ k = 5 ∨ k = 6 ∨ k = 7 ∨ k = 8 ∨ k = 9 := by omega
  rcases this with rfl | rfl | rfl | rfl | rfl | rfl | rfl | rfl | rfl <;> decide
theorem form_letters {k : Nat} (h1 : 1 ≤ k) (h9 : k ≤ 9) : (keyT (form k)).length ≤ 2 ∧ ∀ c ∈ keyT (form k), c = 114 ∨ c = 115 ∨ c = 110 ∨ c = 107 := by
  have : k = 1 ∨ k = 2 ∨ k = 3 ∨ k = 4 ∨ k = 5 ∨ k = 6 ∨ k = 7 ∨ k = 8 ∨ k = 9 := by omega
  rcases this with rfl | rfl | rfl | rfl | rfl | rfl | rfl | rfl | rfl <;> decide
/-- What the words behind the first one are, letter by letter. -/
theorem fill_form {k : Nat} (h1 : 1 ≤ k) (h9 : k ≤ 9) (h : T) (r : List T) : fillR k (h :: r) = if r.length ≠ (keyT (form k)).length then ((2 : Int), ins00) else match fillG ((keyT (form k)).map placeOf) r (ins0 k) with
    | some i => (0, i)
    | none => (2, ins00) := by
  unfold fillR
  rw [places_form h1 h9, fillG, fillStep_word]
  simp only [List.length_cons, List.length_map, Option.bind_some]
  by_cases e : r.length = (keyT (form k)).length
  · rw [if_neg (fun x => x (by rw [e])), if_neg (fun x => x e)]; rfl
  · rw [if_pos (fun x => e (by omega)), if_pos e]; rfl
theorem step_k (w : T) (i : Ins) : fillStep (placeOf 107) w i = some (i.kind, i.a, i.b, i.n, ofT w) := rfl
theorem step_n (w : T) (i : Ins) : fillStep (placeOf 110) w i = (numOf w).map fun x => (i.kind, i.a, i.b, x, i.key) := rfl
theorem step_r (w : T) (i : Ins) : fillStep (placeOf 114) w i = (regOf w).map fun x => (i.kind, x, i.b, i.n, i.key) := rfl
theorem step_s (w : T) (i : Ins) : fillStep (placeOf 115) w i = (regOf w).map fun x => (i.kind, i.a, x, i.n, i.key) := rfl
/-- The kind, of the first j words of all. -/
def kindTo (h : T) (j : Nat) : Nat := if kindOf h < j then kindOf h else 0
theorem kindTo_end (h : T) : kindTo h 10 = kindOf h := by
  unfold kindTo
  rcases kindOf_cases h with h0 | ⟨_, h2, _⟩
  · rw [h0]; rfl
  · rw [if_pos (by omega)]
theorem kindTo_hit {h : T} {j : Nat} (h1 : 1 ≤ j) (h9 : j ≤ 9) (e : h = word j) : kindTo h (j + 1) = j := by
  unfold kindTo; rw [e, kindOf_word j h1 h9, if_pos (by omega)]
theorem kindTo_miss {h : T} {j : Nat} (e : j = 0 ∨ h ≠ word j) : kindTo h (j + 1) = kindTo h j := by
  unfold kindTo
  by_cases hk : kindOf h = j
  · rcases kindOf_cases h with h0 | ⟨h1, _, h3⟩
    · rw [h0]; split <;> split <;> rfl
    · rcases e with rfl | e
      · omega
      · rw [hk] at h3; exact absurd h3 e
  · by_cases hl : kindOf h < j
    · rw [if_pos hl, if_pos (by omega)]
    · rw [if_neg hl, if_neg (by omega)]
end Go.Proofs.YthmkgfdglkdjmaeGreatDoor
